/- TREES UNDER CONDITIONS, where a number equals itself. -/
import Derived.Test.YtgohpnfoogdlaaaDoorSxOpen
/-! LOOPS, ROUND BY ROUND: a round from a state that variables tell; the next one begins as it ends, with other values of the variables. -/
namespace Go.Sx
open Go.RowKit

/-! ## Values that name the blocks below a number alone -/
mutual
def idsLt (n : Nat) : AV → Bool
  | .bool _ => true
  | .int _ _ => true
  | .ptr b _ => Nat.ble (b + 1) n
  | .nilptr => true
  | .slice b _ _ _ => Nat.ble (b + 1) n
  | .sliceX b _ _ _ => Nat.ble (b + 1) n
  | .nilslice => true
  | .map b => Nat.ble (b + 1) n
  | .nilmap => true
  | .func _ x y => and (idsLts n x) (idsLts n y)
  | .yieldF b => Nat.ble (b + 1) n
  | .nilFunc => true
  | .agg l => idsLts n l
  | .tup l => idsLts n l
  | .opq _ => true
  | .sliceU _ => true
  | .sliceV b _ => Nat.ble (b + 1) n
  | .ptrV b _ _ _ _ => Nat.ble (b + 1) n
  | .bad => true
def idsLts (n : Nat) : List AV → Bool
  | [] => true
  | a :: l => and (idsLt n a) (idsLts n l)
end

mutual
theorem conc_ids {n : Nat} {E E' : Env} (hρ : E'.ρ = E.ρ) (hσ : ∀ b, b < n → E'.σ b = E.σ b ∧ (E.σ b ≠ none → E'.κ b = E.κ b)) : ∀ (a : AV), idsLt n a = true → conc E' a = conc E a
  | .bool _, _ => by simp only [conc, hρ]
  | .int _ _, _ => by simp only [conc, hρ]
  | .ptr b _, h => by simp only [conc, (hσ b (ble_t.1 h)).1]
  | .nilptr, _ => rfl
  | .slice b _ _ _, h => by simp only [conc, (hσ b (ble_t.1 h)).1]
  | .sliceX b _ _ _, h => by
    simp only [conc, (hσ b (ble_t.1 h)).1]
    cases hb : E.σ b with
    | none => simp
    | some q => simp only [(hσ b (ble_t.1 h)).2 (by rw [hb]; simp)]
  | .nilslice, _ => rfl
  | .map b, h => by simp only [conc, (hσ b (ble_t.1 h)).1]
  | .nilmap, _ => rfl
  | .func fn x y, h => by
    simp only [idsLt, Bool.and_eq_true] at h
    simp only [conc, concL_ids hρ hσ x h.1, concL_ids hρ hσ y h.2]
  | .yieldF b, h => by simp only [conc, (hσ b (ble_t.1 h)).1]
  | .nilFunc, _ => rfl
  | .agg l, h => by simp only [conc, concL_ids hρ hσ l (by simpa [idsLt] using h)]
  | .tup l, h => by simp only [conc, concL_ids hρ hσ l (by simpa [idsLt] using h)]
  | .opq _, _ => by simp only [conc, hρ]
  | .sliceU _, _ => by simp only [conc, hρ]
  | .sliceV b _, h => by
    simp only [conc, hρ, (hσ b (ble_t.1 h)).1]
    cases hb : E.σ b with
    | none => simp
    | some q => simp only [(hσ b (ble_t.1 h)).2 (by rw [hb]; simp)]
  | .ptrV b _ _ _ _, h => by simp only [conc, hρ, (hσ b (ble_t.1 h)).1]
  | .bad, _ => rfl
theorem concL_ids {n : Nat} {E E' : Env} (hρ : E'.ρ = E.ρ) (hσ : ∀ b, b < n → E'.σ b = E.σ b ∧ (E.σ b ≠ none → E'.κ b = E.κ b)) : ∀ (l : List AV), idsLts n l = true → concL E' l = concL E l
  | [], _ => rfl
  | a :: l, h => by
    simp only [idsLts, Bool.and_eq_true] at h
    simp only [concL, conc_ids hρ hσ a h.1, concL_ids hρ hσ l h.2]
end

/-- alike, whatever blocks are named: a value under one reading of the variables, and one under another -/
def SameV (ρ : Rho) (v : AV) (ρ' : Rho) (v' : AV) : Prop := ∀ σ κ n m rc rc', conc ⟨ρ, σ, κ, n, rc⟩ v = conc ⟨ρ', σ, κ, m, rc'⟩ v'

theorem SameV.int {ρ ρ' : Rho} {k : IntKind} {e e' : IE} (h : e.den ρ = e'.den ρ') : SameV ρ (.int k e) ρ' (.int k e') := fun _ _ _ _ _ _ => by simp only [conc, h]
theorem SameV.bool {ρ ρ' : Rho} {e e' : BE} (h : e.den ρ = e'.den ρ') : SameV ρ (.bool e) ρ' (.bool e') := fun _ _ _ _ _ _ => by simp only [conc, h]
theorem SameV.opq {ρ ρ' : Rho} {i j : Nat} (h : ρ.ov i = ρ'.ov j) : SameV ρ (.opq i) ρ' (.opq j) := fun _ _ _ _ _ _ => by simp only [conc, h]
theorem SameV.ptr {ρ ρ' : Rho} (b o : Nat) : SameV ρ (.ptr b o) ρ' (.ptr b o) := fun _ _ _ _ _ _ => rfl
theorem SameV.slice {ρ ρ' : Rho} (b o l c : Nat) : SameV ρ (.slice b o l c) ρ' (.slice b o l c) := fun _ _ _ _ _ _ => rfl
theorem SameV.sliceX {ρ ρ' : Rho} (b o l c : Nat) : SameV ρ (.sliceX b o l c) ρ' (.sliceX b o l c) := fun _ _ _ _ _ _ => rfl
theorem SameV.sliceV {ρ ρ' : Rho} (b : Nat) {i : Nat} (h : ρ.iv i = ρ'.iv i) : SameV ρ (.sliceV b i) ρ' (.sliceV b i) := fun _ _ _ _ _ _ => by simp only [conc, h]
theorem SameV.map {ρ ρ' : Rho} (b : Nat) : SameV ρ (.map b) ρ' (.map b) := fun _ _ _ _ _ _ => rfl
theorem SameV.nilslice {ρ ρ' : Rho} : SameV ρ .nilslice ρ' .nilslice := fun _ _ _ _ _ _ => rfl
theorem SameV.nilFunc {ρ ρ' : Rho} : SameV ρ .nilFunc ρ' .nilFunc := fun _ _ _ _ _ _ => rfl
theorem SameV.agg {ρ ρ' : Rho} {l l' : List AV} (h : ∀ σ κ n m rc rc', concL ⟨ρ, σ, κ, n, rc⟩ l = concL ⟨ρ', σ, κ, m, rc'⟩ l') : SameV ρ (.agg l) ρ' (.agg l') := fun σ κ n m rc rc' => by simp only [conc, h σ κ n m rc rc']
theorem SameV.func {ρ ρ' : Rho} {fn : Fn} {l l' k k' : List AV} (h : ∀ σ κ n m rc rc', concL ⟨ρ, σ, κ, n, rc⟩ l = concL ⟨ρ', σ, κ, m, rc'⟩ l') (hk : ∀ σ κ n m rc rc', concL ⟨ρ, σ, κ, n, rc⟩ k = concL ⟨ρ', σ, κ, m, rc'⟩ k') : SameV ρ (.func fn l k) ρ' (.func fn l' k') :=
  fun σ κ n m rc rc' => by simp only [conc, h σ κ n m rc rc', hk σ κ n m rc rc']
theorem SameL.nil {ρ ρ' : Rho} : ∀ σ κ n m rc rc', concL ⟨ρ, σ, κ, n, rc⟩ [] = concL ⟨ρ', σ, κ, m, rc'⟩ [] := fun _ _ _ _ _ _ => rfl
theorem SameL.cons {ρ ρ' : Rho} {a a' : AV} {l l' : List AV} (h : SameV ρ a ρ' a') (k : ∀ σ κ n m rc rc', concL ⟨ρ, σ, κ, n, rc⟩ l = concL ⟨ρ', σ, κ, m, rc'⟩ l') : ∀ σ κ n m rc rc', concL ⟨ρ, σ, κ, n, rc⟩ (a :: l) = concL ⟨ρ', σ, κ, m, rc'⟩ (a' :: l') :=
  fun σ κ n m rc rc' => by simp only [concL, h σ κ n m rc rc', k σ κ n m rc rc']

/-! ## Blocks put anew -/
noncomputable def putL : List (Nat × AObj) → Heap → Heap
  | [], h => h
  | q :: l, h => putL l (h.put q.1 q.2)
theorem putL_next : ∀ (l : List (Nat × AObj)) (h : Heap), (putL l h).next = h.next
  | [], _ => rfl
  | q :: l, h => by rw [putL, putL_next l]; rfl
theorem putL_get : ∀ (l : List (Nat × AObj)) (h : Heap) (j : Nat) (o : AObj), (putL l h).get j = some o → (h.get j = some o ∧ ∀ q ∈ l, q.1 ≠ j) ∨ ∃ q ∈ l, q.1 = j ∧ q.2 = o
  | [], h, j, o, e => .inl ⟨e, fun q hq => by cases hq⟩
  | q :: l, h, j, o, e => by
    rw [putL] at e
    rcases putL_get l _ j o e with ⟨h1, h2⟩ | ⟨q', h1, h2, h3⟩
    · rw [Heap.get_put] at h1
      by_cases hj : j = q.1
      · rw [if_pos hj] at h1; cases h1
        exact .inr ⟨q, List.mem_cons_self, hj.symm, rfl⟩
      · rw [if_neg hj] at h1
        refine .inl ⟨h1, fun q' hq' => ?_⟩
        rcases List.mem_cons.1 hq' with rfl | hq'
        · exact fun e => hj e.symm
        · exact h2 q' hq'
    · exact .inr ⟨q', List.mem_cons_of_mem _ h1, h2, h3⟩

/-- BLOCKS OF ONE's OWN, WRITTEN. -/
theorem HeapOk.putAll {p : Par} {E : Env} {h : Heap} {w0 : Base} {w w' : World} (HH : HeapOk p E h w0 w) {outs : List (Nat × AObj)} (hK : Kept (fun c => c < w.heap.size ∧ ∀ q ∈ outs, ∀ x, E.σ q.1 ≠ some (c, x)) w w')
    (hout : ∀ q ∈ outs, ownO q.2 = true ∧ objOk p E q.1 q.2 w'.heap ∧ ∃ o0, h.get q.1 = some o0 ∧ ownO o0 = true) : HeapOk p E (putL outs h) w0 w' := by
  have kinds : ∀ j o, (putL outs h).get j = some o → ∃ o0, h.get j = some o0 ∧ ((o0 = o ∧ ∀ q ∈ outs, q.1 ≠ j) ∨ (ownO o0 = true ∧ ownO o = true ∧ objOk p E j o w'.heap)) := fun j o e => by
    rcases putL_get outs h j o e with ⟨h1, h2⟩ | ⟨q, hq, rfl, rfl⟩
    · exact ⟨o, h1, .inl ⟨rfl, h2⟩⟩
    · obtain ⟨a1, a2, o0, a3, a4⟩ := hout q hq
      exact ⟨o0, a3, .inr ⟨a4, a1, a2⟩⟩
  have no : ∀ j o0 c x, h.get j = some o0 → (∀ q ∈ outs, q.1 ≠ j) → (ownO o0 = true ∨ roO o0 = true) → E.σ j = some (c, x) → ∀ q ∈ outs, ∀ y, E.σ q.1 ≠ some (c, y) := fun j o0 c x g hne hk hc q hq y hy => by
    obtain ⟨_, _, o1, a3, a4⟩ := hout q hq
    rcases hk with hk | hk
    · exact hne q hq (HH.inj _ _ _ _ _ _ _ a3 g a4 hk hy hc)
    · exact HH.base _ _ _ _ a3 a4 hy (HH.ro _ _ _ _ g hk hc)
  refine ⟨fun j o ho => ?_, fun b b' o o' c x y g1 g2 w1 w2 s1 s2 => ?_, fun b o c x ho ow s => ?_, fun b o c y hg hr s => ?_, fun b hb => ?_, fun b o c x ho s => ?_, HH.glob, ?_, ?_, HH.ok⟩
  · obtain ⟨o0, g, ⟨rfl, hne⟩ | ⟨_, _, hok⟩⟩ := kinds j o ho
    · exact (HH.obj j o0 g).mono (Env.le0.refl E) (fun h => h) (fun c x hc hk => hK.block c ⟨HH.lt _ _ _ _ g hc, no j o0 c x g hne hk hc⟩)
    · exact hok
  · have f : ∀ b o, (putL outs h).get b = some o → ownO o = true → ∃ o0, h.get b = some o0 ∧ ownO o0 = true := fun b o g hw => by
      obtain ⟨o0, g', ⟨rfl, _⟩ | ⟨hw', _⟩⟩ := kinds b o g
      · exact ⟨o0, g', hw⟩
      · exact ⟨o0, g', hw'⟩
    obtain ⟨o0, k1, k2⟩ := f b o g1 w1
    obtain ⟨o0', k1', k2'⟩ := f b' o' g2 w2
    exact HH.inj _ _ _ _ _ _ _ k1 k1' k2 k2' s1 s2
  · obtain ⟨o0, g, ⟨rfl, _⟩ | ⟨hw, _⟩⟩ := kinds b o ho
    · exact HH.base _ _ _ _ g ow s
    · exact HH.base _ _ _ _ g hw s
  · obtain ⟨o0, g, ⟨rfl, _⟩ | ⟨_, hw, _⟩⟩ := kinds b o hg
    · exact HH.ro _ _ _ _ g hr s
    · rw [roO_own hw] at hr; cases hr
  · rw [putL_next] at hb; exact HH.fresh b hb
  · obtain ⟨o0, g, _⟩ := kinds b o ho
    exact Nat.lt_of_lt_of_le (HH.lt _ _ _ _ g s) hK.size
  · refine HH.below.trans ⟨hK.os, hK.tape, hK.output, hK.size, fun c hc => hK.block c ⟨HH.below.lt hc, fun q hq y hy => ?_⟩⟩
    obtain ⟨_, _, o1, a3, a4⟩ := hout q hq
    exact HH.base _ _ _ _ a3 a4 hy hc
  · rw [putL_next]; exact HH.nx

/-! ## Rounds -/
/-- a block of a template: one that is only read, or one that is written -/
structure VB where
  id : Nat
  cs : List AV
  own : Option (TypeId × Bool)
  u : Option (Nat × List Bool)

noncomputable def VB.obj (v : VB) : AObj :=
  match v.own with
  | none => (match v.u with
    | none => .cells v.cs 0 false false
    | some q => .ucells q.1 q.2)
  | some q => .cells v.cs q.1 true q.2
theorem VB.own_obj (v : VB) : ownO v.obj = v.own.isSome := by unfold VB.obj; cases v.own with | some q => rfl | none => cases v.u <;> rfl
theorem VB.ro_obj (v : VB) : roO v.obj = !v.own.isSome := by unfold VB.obj; cases v.own with | some q => rfl | none => cases v.u <;> rfl
/-- a list that is not known, under two readings -/
def SameU (ρ ρ' : Rho) (u : Option (Nat × List Bool)) : Prop := ∀ q, u = some q → ρ.iv q.1 = ρ'.iv q.1 ∧ ∀ n off k, cellOf ρ q.1 n off k = cellOf ρ' q.1 n off k
theorem SameU.none (ρ ρ' : Rho) : SameU ρ ρ' none := fun q h => by cases h
theorem SameU.some {ρ ρ' : Rho} {i : Nat} {ks : List Bool} (h : ρ.iv i = ρ'.iv i) (hi : ρ.fi = ρ'.fi) (hb : ρ.fb = ρ'.fb) : SameU ρ ρ' (some (i, ks)) := fun q e => by cases e; exact ⟨h, fun n off k => by unfold cellOf; rw [hi, hb]⟩

noncomputable def vbHeap (n : Nat) : List VB → Heap
  | [] => ⟨.nil, n⟩
  | g :: l => (vbHeap n l).put g.id g.obj
theorem vbHeap_next (n : Nat) : ∀ l, (vbHeap n l).next = n
  | [] => rfl
  | g :: l => by rw [vbHeap, Heap.next_put]; exact vbHeap_next n l
theorem vbHeap_get (n : Nat) : ∀ (l : List VB) (b : Nat) (o : AObj), (vbHeap n l).get b = some o → ∃ g ∈ l, g.id = b ∧ o = g.obj
  | [], b, o, h => by
    have : (PT.nil : PT AObj).get b = some o := h
    rw [PT.get_nil] at this; cases this
  | g :: l, b, o, h => by
    rw [vbHeap, Heap.get_put] at h
    by_cases c : b = g.id
    · rw [if_pos c] at h; cases h; exact ⟨g, List.mem_cons_self, c.symm, rfl⟩
    · rw [if_neg c] at h
      obtain ⟨g', h1, h2⟩ := vbHeap_get n l b o h
      exact ⟨g', List.mem_cons_of_mem _ h1, h2⟩

/-- a state that variables tell: slots, and blocks -/
structure Tmpl where
  sl : List (Nat × AV)
  view : List VB
  nv : Nat

noncomputable def Tmpl.st (T : Tmpl) : St := ⟨⟨[], treeOf T.sl⟩, [], vbHeap T.nv T.view⟩
def Tmpl.env (T : Tmpl) (σ : Nat → Option (Nat × Nat)) (κ : Nat → Nat) (ρ : Rho) : Env := ⟨ρ, σ, κ, T.nv, fun _ => #[]⟩
/-- what the rounds do not write -/
def Tmpl.keeps (T : Tmpl) (σ : Nat → Option (Nat × Nat)) (w : World) (c : Nat) : Prop := c < w.heap.size ∧ ∀ g ∈ T.view, g.own.isSome = true → ∀ x, σ g.id ≠ some (c, x)

/-- a state is as the template, the variables read so -/
structure LInv (p : Par) (T : Tmpl) (n : Nat) (σ : Nat → Option (Nat × Nat)) (κ : Nat → Nat) (ρ : Rho) (w0 : World) (a : Act) (w : World) : Prop where
  size : n ≤ a.tmps.size
  df : a.defers = []
  at_ : ∀ g ∈ T.sl, ∃ v, conc (T.env σ κ ρ) g.2 = some v ∧ a.tmps[g.1]? = some v
  view : ∀ g ∈ T.view, objOk p (T.env σ κ ρ) g.id g.obj w.heap ∧ ∃ c x, σ g.id = some (c, x) ∧ c < w.heap.size
  kept : Kept (T.keeps σ w0) w0 w

/-- cells alike -/
def SameL (ρ : Rho) (l : List AV) (ρ' : Rho) (l' : List AV) : Prop := ∀ σ κ n m rc rc', concL ⟨ρ, σ, κ, n, rc⟩ l = concL ⟨ρ', σ, κ, m, rc'⟩ l'

/-- a state after a round is as the template, the variables read anew -/
def Next (T : Tmpl) (ρ ρ' : Rho) (s : St) : Prop := s.df = [] ∧ (∀ g ∈ T.sl, ∃ v, s.tm.tree.get g.1 = some v ∧ SameV ρ v ρ' g.2) ∧
  ∀ g ∈ T.view, match g.own with
    | none => SameL ρ g.cs ρ' g.cs ∧ SameU ρ ρ' g.u
    | some q => ∃ cs, s.h.get g.id = some (.cells cs q.1 true q.2) ∧ SameL ρ cs ρ' g.cs

structure TOk (T : Tmpl) (keep : List Nat) (σ : Nat → Option (Nat × Nat)) : Prop where
  keep : ∀ g ∈ T.sl, memN keep (some g.1) = true
  ids : ∀ g ∈ T.sl, idsLt T.nv g.2 = true
  idsV : ∀ g ∈ T.view, idsLts T.nv g.cs = true ∧ g.id < T.nv
  fresh : ∀ b, T.nv ≤ b → σ b = none
  glob : ∀ b, b < 1000 → σ b = some (b, 0)
  inj : ∀ g ∈ T.view, g.own.isSome = true → ∀ g' ∈ T.view, ∀ c x y, σ g.id = some (c, x) → σ g'.id = some (c, y) → g = g'

/-- cells under names that are more -/
theorem concL_env {T : Tmpl} {σ : Nat → Option (Nat × Nat)} {κ : Nat → Nat} {ρ ρ' : Rho} {E' : Env} (hle : (T.env σ κ ρ).le E') {cs cs' : List AV} {vs : List Value} (hi : idsLts T.nv cs' = true) (hs : SameL ρ cs ρ' cs') (h : concL E' cs = some vs) : concL (T.env σ κ ρ') cs' = some vs := by
  have e1 : concL ⟨ρ', E'.σ, E'.κ, T.nv, fun _ => #[]⟩ cs' = some vs := by
    have := hs E'.σ E'.κ E'.n T.nv E'.rc (fun _ => #[])
    rw [← this, ← h]
    have hρ : E'.ρ = ρ := hle.ρ
    rw [← hρ]
  rw [← e1]
  refine (concL_ids (E := T.env σ κ ρ') (E' := ⟨ρ', E'.σ, E'.κ, T.nv, fun _ => #[]⟩) rfl (fun b hb => ?_) cs' hi).symm
  cases hs' : σ b with
  | none => exact ⟨(hle.none b hb hs').trans hs'.symm, fun h => absurd hs' h⟩
  | some q => exact ⟨(hle.σ b q hs').trans hs'.symm, fun _ => hle.κ b q hs'⟩
theorem conc_env {T : Tmpl} {σ : Nat → Option (Nat × Nat)} {κ : Nat → Nat} {ρ ρ' : Rho} {E' : Env} (hle : (T.env σ κ ρ).le E') {v v' : AV} {u : Value} (hi : idsLt T.nv v' = true) (hs : SameV ρ v ρ' v') (h : conc E' v = some u) : conc (T.env σ κ ρ') v' = some u := by
  have hs' : SameL ρ [v] ρ' [v'] := fun σ κ n m rc rc' => by simp only [concL, hs σ κ n m rc rc']
  have hc : concL E' [v] = some [u] := by simp only [concL, h]
  have := concL_env (ρ' := ρ') hle (by simp [idsLts, hi]) hs' hc
  obtain ⟨x, r, h1, h2, h3⟩ := concL_cons.1 this
  cases h3
  exact h1

theorem loop_step {p : Par} {n : Nat} {keep : List Nat} {body : C} {code : Code} (hf : COk p n keep body code) {T : Tmpl} {σ : Nat → Option (Nat × Nat)} {κ : Nat → Nat} (K : TOk T keep σ) {cx : Cx} (CX : CxOk p cx) {wh : Wh} {rd : Option Nat} (hwr : wh.rd = none) (hrd : rd = none)
    {ρ : Rho} {m : Nat → Obj → Prop} (hok : p.ok ρ m) {w0 : World} (hm : ∀ c o, m c o → T.keeps σ w0 c ∧ w0.heap[c]? = some o) {a : Act} {w : World} (I : LInv p T n σ κ ρ w0 a w) {Nx : Rho → Prop} {Out : Ex → St → Prop}
    (round : (body cx wh T.st).Holds ρ fun r => (r.1 = .norm ∧ ∃ ρ', Nx ρ' ∧ Next T ρ ρ' r.2) ∨ (r.1 ≠ .norm ∧ Out r.1 r.2)) {Q' : Exit → Act → World → Prop}
    (go : ∀ ρ' a' w', Nx ρ' → LInv p T n σ κ ρ' w0 a' w' → Q' .normal a' w')
    (exit : ∀ x s' E' b a' w', x ≠ .norm → Out x s' → (T.env σ κ ρ).le E' → StOk p n keep E' b s' a' w' → Kept (T.keeps σ w0) w0 w' → (∀ g ∈ T.view, ∃ c x, σ g.id = some (c, x)) → Q' (exOf x) a' w') : code.wpIn (fence rd) 0 p.P Q' a w := by
  let b : Base := ⟨w, T.keeps σ w, fun c hc => hc.1⟩
  have lt : ∀ j o c x, (vbHeap T.nv T.view).get j = some o → (T.env σ κ ρ).σ j = some (c, x) → c < w.heap.size := fun j o c x ho hs => by
    obtain ⟨g, hg, rfl, rfl⟩ := vbHeap_get _ _ _ _ ho
    obtain ⟨c', x', h1, h2⟩ := (I.view g hg).2
    have h1' : (T.env σ κ ρ).σ g.id = some (c', x') := h1
    rw [h1'] at hs; cases hs; exact h2
  have HH : HeapOk p (T.env σ κ ρ) (vbHeap T.nv T.view) b w := by
    refine ⟨fun j o ho => ?_, fun j j' o o' c x y g1 g2 w1 w2 s1 s2 => ?_, fun j o c x ho hw hs hc => ?_, fun j o c y ho hr hs => ?_, fun j hj => ?_, lt, K.glob, Kept.refl _ _, (by rw [vbHeap_next]; exact Nat.le_refl _), ⟨m, hok, fun c o e => ⟨⟨Nat.lt_of_lt_of_le (hm c o e).1.1 I.kept.size, (hm c o e).1.2⟩, (I.kept.block c (hm c o e).1).trans (hm c o e).2⟩⟩⟩
    · obtain ⟨g, hg, rfl, rfl⟩ := vbHeap_get _ _ _ _ ho
      exact (I.view g hg).1
    · obtain ⟨g, hg, rfl, rfl⟩ := vbHeap_get _ _ _ _ g1
      obtain ⟨g', hg', rfl, rfl⟩ := vbHeap_get _ _ _ _ g2
      rw [VB.own_obj] at w1
      rw [K.inj g hg w1 g' hg' c x y s1 s2]
    · obtain ⟨g, hg, rfl, rfl⟩ := vbHeap_get _ _ _ _ ho
      rw [VB.own_obj] at hw
      exact hc.2 g hg hw x hs
    · refine ⟨lt j o c y ho hs, fun g' hg' hw x hx => ?_⟩
      obtain ⟨g, hg, rfl, rfl⟩ := vbHeap_get _ _ _ _ ho
      have := K.inj g' hg' hw g hg c x y hx hs
      subst this
      rw [VB.ro_obj, hw] at hr; cases hr
    · rw [vbHeap_next] at hj; exact K.fresh j hj
  have HT : TreeOk keep (T.env σ κ ρ) (treeOf T.sl) a.tmps := ⟨fun t A hA => by
    have hm := treeOf_get _ _ _ hA
    obtain ⟨v, h1, h2⟩ := I.at_ _ hm
    exact ⟨K.keep _ hm, v, h1, h2⟩⟩
  have S : StOk p n keep (T.env σ κ ρ) b T.st a w := ⟨⟨I.size, fun t A h => (by cases h), HT⟩, by rw [I.df]; trivial, HH⟩
  refine hf cx CX wh rd (T.env σ κ ρ) b w T.st a _ Q' (by rw [hwr, hrd]; trivial) S round ?_
  intro x s' E' w' a' q hle S'
  have hk : Kept (T.keeps σ w) w w' := S'.hp.below
  have hb : Kept (T.keeps σ w0) w0 w' := I.kept.trans ⟨hk.os, hk.tape, hk.output, hk.size, fun c hc => hk.block c ⟨Nat.lt_of_lt_of_le hc.1 I.kept.size, hc.2⟩⟩
  rcases q with ⟨hx, ρ', hN, hdf, hsl, hvw⟩ | ⟨hx, ho⟩
  · simp only at hx hdf hsl hvw
    subst hx
    refine go ρ' a' w' hN ⟨S'.tm.size, ?_, fun g hg => ?_, fun g hg => ?_, hb⟩
    · have := S'.df
      rw [hdf] at this
      cases hd : a'.defers with
      | nil => rfl
      | cons d ds => rw [hd] at this; exact this.elim
    · obtain ⟨v, h1, h2⟩ := hsl g hg
      obtain ⟨_, u, h3, h4⟩ := S'.tm.tree.at_ _ _ h1
      exact ⟨u, conc_env hle (K.ids g hg) h2 h3, h4⟩
    · obtain ⟨hok, c, x, hσ, hlt⟩ := I.view g hg
      refine ⟨?_, c, x, hσ, Nat.lt_of_lt_of_le hlt hk.size⟩
      have hv := hvw g hg
      cases hown : g.own with
      | none =>
        rw [hown] at hv
        obtain ⟨hv, hu⟩ := hv
        have hσ' : (T.env σ κ ρ).σ g.id = some (c, x) := hσ
        have hsame : w'.heap[c]? = w.heap[c]? := hk.block c ⟨hlt, fun g' hg' hw y hy => by
          have := K.inj g' hg' hw g hg c y x hy hσ
          subst this
          rw [hown] at hw; cases hw⟩
        cases hgu : g.u with
        | none =>
          have e : g.obj = .cells g.cs 0 false false := by unfold VB.obj; rw [hown]; simp only [hgu]
          rw [e] at hok ⊢
          obtain ⟨c', base, vs, cells, el, fz, k1, k2, k3, k4, k5⟩ := hok
          rw [hσ'] at k1; cases k1
          refine ⟨c, x, vs, cells, el, fz, hσ, ?_, ?_, k4, fun h => by cases h⟩
          · rw [← k2]; exact (hv σ κ T.nv T.nv (fun _ => #[]) (fun _ => #[])).symm
          · rw [hsame]; exact k3
        | some q =>
          have e : g.obj = .ucells q.1 q.2 := by unfold VB.obj; rw [hown]; simp only [hgu]
          rw [e] at hok ⊢
          obtain ⟨c', base, cells, el, fz, k1, k3, k4⟩ := hok
          rw [hσ'] at k1; cases k1
          obtain ⟨u1, u2⟩ := hu q hgu
          have u1 : ρ.iv q.1 = ρ'.iv q.1 := u1
          refine ⟨c, x, cells, el, fz, hσ, by rw [hsame]; exact k3, fun n off k hn hk => ?_⟩
          have hn : (n : Int) < ρ'.iv q.1 := hn
          rw [← u1] at hn
          rw [k4 n off k hn hk]
          exact congrArg some (u2 n off k)
      | some q =>
        rw [hown] at hv
        obtain ⟨cs, hget, hs⟩ := hv
        have e : g.obj = .cells g.cs q.1 true q.2 := by unfold VB.obj; rw [hown]
        rw [e]
        obtain ⟨c', base, vs, cells, el, fz, k1, k2, k3, k4, k5⟩ := S'.hp.obj _ _ hget
        have hσ' : (T.env σ κ ρ).σ g.id = some (c, x) := hσ
        have h6 := hle.σ _ _ hσ'
        rw [k1] at h6; cases h6
        refine ⟨c, x, vs, cells, el, fz, hσ, concL_env hle (K.idsV g hg).1 hs k2, k3, k4, fun h => ?_⟩
        have hκ : E'.κ g.id = κ g.id := hle.κ _ _ hσ'
        obtain ⟨m1, m2, m3, m4⟩ := k5 h
        exact ⟨m1, m2, m3, fun h => by have := m4 h; rw [hκ] at this; exact this⟩
  · exact exit x s' E' b a' w' hx ho hle S' hb (fun g hg => by
      obtain ⟨c, x, h1, _⟩ := (I.view g hg).2
      exact ⟨c, x, h1⟩)

theorem loop_rounds {p : Par} {n : Nat} {keep : List Nat} {body : C} {code : Code} (hf : COk p n keep body code) {T : Tmpl} {σ : Nat → Option (Nat × Nat)} {κ : Nat → Nat} (K : TOk T keep σ) {cx : Cx} (CX : CxOk p cx) {wh : Wh} {rd : Option Nat} (hwr : wh.rd = none) (hrd : rd = none)
    {w0 : World} {M : Nat} {At : Nat → Rho → Prop} {Out : Rho → Ex → St → Prop} {m : Nat → Obj → Prop} (hAt : ∀ i ρ, At i ρ → p.ok ρ m) (hm : ∀ c o, m c o → T.keeps σ w0 c ∧ w0.heap[c]? = some o)
    (round : ∀ i ρ, i ≤ M → At i ρ → (body cx wh T.st).Holds ρ fun r => (r.1 = .norm ∧ ∃ ρ', (i < M ∧ At (i + 1) ρ') ∧ Next T ρ ρ' r.2) ∨ (r.1 ≠ .norm ∧ Out ρ r.1 r.2)) {Q' : Exit → Act → World → Prop}
    (exit : ∀ i ρ x s' E' b a' w', At i ρ → x ≠ .norm → Out ρ x s' → (T.env σ κ ρ).le E' → StOk p n keep E' b s' a' w' → Kept (T.keeps σ w0) w0 w' → (∀ g ∈ T.view, ∃ c x, σ g.id = some (c, x)) → Q' (exOf x) a' w') :
    ∀ (k i : Nat) (ρ : Rho) (a : Act) (w : World), i + k = M → At i ρ → LInv p T n σ κ ρ w0 a w → Code.roundsIn (fence rd) 0 p.P code Q' (k + 1) a w
  | k, i, ρ, a, w, hik, hA, I => by
    rw [roundsIn_succ]
    have ex : ∀ x s' E' b a' w', x ≠ .norm → Out ρ x s' → (T.env σ κ ρ).le E' → StOk p n keep E' b s' a' w' → Kept (T.keeps σ w0) w0 w' → (∀ g ∈ T.view, ∃ c x, σ g.id = some (c, x)) → Exit.then (Code.roundsIn (fence rd) 0 p.P code Q' k) Q' (exOf x) a' w' := fun x s' E' b a' w' hx ho hle S' hb hv => by
      have := exit i ρ x s' E' b a' w' hA hx ho hle S' hb hv
      cases x with
      | norm => exact absurd rfl hx
      | exit id => exact this
      | ret => exact this
    refine loop_step hf K CX hwr hrd (hAt i ρ hA) hm I (Nx := fun ρ' => i < M ∧ At (i + 1) ρ') (Out := Out ρ) (round i ρ (by omega) hA) (fun ρ' a' w' hN I' => ?_) ex
    cases k with
    | zero => omega
    | succ k => exact loop_rounds hf K CX hwr hrd hAt hm round exit k (i + 1) ρ' a' w' (by omega) hN.2 I'

/-! ## A loop, taken as said -/
/-- what the variables of a template are in a state -/
structure Bd where
  is : List (Nat × IE)
  os : List (Nat × AV)
  r : Ren
  bs : List (Nat × BE)

noncomputable def bdI (x e : IE) (B : Bd) : Option Bd :=
  match x with
  | .var j => (match lFind B.is j with
    | some e' => cond (eqIE e' e) (some B) none
    | none => some ⟨(j, e) :: B.is, B.os, B.r, B.bs⟩)
  | .lit z => cond (eqIE (.lit z) e) (some B) none
  | _ => none
noncomputable def bdB (a b : BE) (B : Bd) : Option Bd :=
  match a with
  | .lit x => (match b with
    | .lit y => cond (beqB x y) (some B) none
    | _ => none)
  | .var j => (match lFind B.bs j with
    | some b' => cond (eqBE b' b) (some B) none
    | none => some ⟨B.is, B.os, B.r, (j, b) :: B.bs⟩)
  | _ => none
noncomputable def bdR (n b b' : Nat) (B : Bd) : Option Bd :=
  match bindR n b b' B.r with
  | some r => some ⟨B.is, B.os, r, B.bs⟩
  | none => none
noncomputable def bdO (j : Nat) (v : AV) (B : Bd) : Option Bd :=
  match lFind B.os j with
  | some v' => cond (eqAV v' v) (some B) none
  | none => some ⟨B.is, (j, v) :: B.os, B.r, B.bs⟩

mutual
noncomputable def bdV (n : Nat) : AV → AV → Bd → Option Bd
  | .int k x, .int k' e, B => cond (kindEq k k') (bdI x e B) none
  | .opq j, v, B => bdO j v B
  | .sliceU i, .sliceU j, B => (match bdI (.var i) (.var j) B with
    | some B' => bdO i (.sliceU j) B'
    | none => none)
  | .ptr b o, .ptr b' o', B => cond (Nat.beq o o') (bdR n b b' B) none
  | .slice b o l c, .slice b' o' l' c', B => cond (and (Nat.beq o o') (and (Nat.beq l l') (Nat.beq c c'))) (bdR n b b' B) none
  | .sliceX b o l c, .sliceX b' o' l' c', B => cond (and (Nat.beq o o') (and (Nat.beq l l') (Nat.beq c c'))) (bdR n b b' B) none
  | .map b, .map b', B => cond true (bdR n b b' B) none
  | .sliceV b i, .sliceV b' j, B => (match bdI (.var i) (.var j) B with
    | some B' => cond true (bdR n b b' B') none
    | none => none)
  | .agg x, .agg y, B => bdL n x y B
  | .tup x, .tup y, B => bdL n x y B
  | .func fn x y, .func fn' x' y', B => cond (eqFn fn fn') (match bdL n x x' B with
    | some B' => bdL n y y' B'
    | none => none) none
  | .bool a, .bool b, B => bdB a b B
  | .nilptr, .nilptr, B => some B
  | .nilslice, .nilslice, B => some B
  | .nilmap, .nilmap, B => some B
  | .nilFunc, .nilFunc, B => some B
  | _, _, _ => none
noncomputable def bdL (n : Nat) : List AV → List AV → Bd → Option Bd
  | [], [], B => some B
  | a :: l, b :: m, B => (match bdV n a b B with
    | some B' => bdL n l m B'
    | none => none)
  | _, _, _ => none
end

structure RelD (n : Nat) (E ES : Env) (B : Bd) : Prop where
  is : ∀ j e, lFind B.is j = some e → ES.ρ.iv j = e.den E.ρ
  os : ∀ j v, lFind B.os j = some v → conc E v = some (ES.ρ.ov j)
  lo : ∀ b, b < 1000 → ES.σ b = E.σ b ∧ ES.κ b = E.κ b
  at_ : ∀ b c, 1000 ≤ b → b < n → lFind B.r b = some c → ES.σ b = E.σ c ∧ ES.κ b = E.κ c
  bs : ∀ j e, lFind B.bs j = some e → ES.ρ.bv j = e.den E.ρ
structure SubD (n : Nat) (B B' : Bd) : Prop where
  is : ∀ j e, lFind B.is j = some e → lFind B'.is j = some e
  os : ∀ j v, lFind B.os j = some v → lFind B'.os j = some v
  r : SubR n B.r B'.r
  bs : ∀ j e, lFind B.bs j = some e → lFind B'.bs j = some e
theorem SubD.refl (n : Nat) (B : Bd) : SubD n B B := ⟨fun _ _ h => h, fun _ _ h => h, SubR.refl _ _, fun _ _ h => h⟩
theorem SubD.trans {n : Nat} {A B C : Bd} (h : SubD n A B) (k : SubD n B C) : SubD n A C := ⟨fun j e h1 => k.is j e (h.is j e h1), fun j v h1 => k.os j v (h.os j v h1), h.r.trans k.r, fun j v h1 => k.bs j v (h.bs j v h1)⟩
theorem RelD.sub {n : Nat} {E ES : Env} {B B' : Bd} (h : RelD n E ES B') (k : SubD n B B') : RelD n E ES B :=
  ⟨fun j e h1 => h.is j e (k.is j e h1), fun j v h1 => h.os j v (k.os j v h1), h.lo, fun b c h1 h2 h3 => h.at_ b c h1 h2 (k.r b c h1 h2 h3), fun j e h1 => h.bs j e (k.bs j e h1)⟩
/-- each of them is a value -/
def GoodD (E : Env) (B : Bd) : Prop := ∀ j v, lFind B.os j = some v → ∃ u, conc E v = some u

/-- what a match gives -/
structure BdOk (n : Nat) (B B' : Bd) (A : Env → Value → Prop) (A' : Env → Value → Prop) : Prop where
  sub : SubD n B B'
  good : ∀ E u, A' E u → GoodD E B → GoodD E B'
  same : ∀ E ES u, RelD n E ES B' → A' E u → A ES u

theorem bd_bind {n b b' : Nat} {B B' : Bd} {c : Bool} (h : cond c (bdR n b b' B) none = some B') :
    c = true ∧ SubD n B B' ∧ B'.os = B.os ∧ ∀ E ES, RelD n E ES B' → ES.σ b = E.σ b' ∧ ES.κ b = E.κ b' := by
  obtain ⟨hc, h⟩ := cond_some h
  unfold bdR at h
  split at h
  · rename_i r hr
    cases h
    obtain ⟨q1, q2⟩ := bindR_ok hr
    exact ⟨hc, ⟨fun _ _ h => h, fun _ _ h => h, q1, fun _ _ h => h⟩, rfl, fun E ES R => q2 ⟨E.ρ, E.σ, E.κ, E.n, E.rc⟩ ⟨E.ρ, ES.σ, ES.κ, ES.n, ES.rc⟩ ⟨rfl, R.lo, R.at_⟩⟩
  · cases h

theorem bdI_ok {n : Nat} {k : IntKind} {x e : IE} {B B' : Bd} (h : bdI x e B = some B') : BdOk n B B' (fun E u => conc E (.int k x) = some u) (fun E u => conc E (.int k e) = some u) := by
  unfold bdI at h
  split at h
  · rename_i j
    split at h
    · rename_i e' he'
      obtain ⟨h1, h2⟩ := cond_some h
      cases h2
      have := eqIE_eq _ _ h1; subst this
      exact ⟨SubD.refl _ _, fun _ _ _ g => g, fun E ES u R hu => by simp only [conc, IE.den, R.is _ _ he'] at hu ⊢; exact hu⟩
    · rename_i hn
      cases h
      refine ⟨⟨fun i e1 hi => ?_, fun _ _ h => h, SubR.refl _ _, fun _ _ h => h⟩, fun _ _ _ g => g, fun E ES u R hu => ?_⟩
      · rw [lFind_cons]
        cases hb : Nat.beq j i with
        | true => have := beq_t.1 hb; subst this; rw [hn] at hi; cases hi
        | false => exact hi
      · have := R.is j e (by rw [lFind_cons, beq_t.2 rfl]; rfl)
        simp only [conc, IE.den, this] at hu ⊢; exact hu
  · obtain ⟨h1, h2⟩ := cond_some h
    cases h2
    have := eqIE_eq _ _ h1; subst this
    exact ⟨SubD.refl _ _, fun _ _ _ g => g, fun E ES u R hu => by simp only [conc, IE.den] at hu ⊢; exact hu⟩
  · cases h

theorem bdB_ok {n : Nat} {a b : BE} {B B' : Bd} (h : bdB a b B = some B') : BdOk n B B' (fun E u => conc E (.bool a) = some u) (fun E u => conc E (.bool b) = some u) := by
  unfold bdB at h
  split at h
  · split at h
    · obtain ⟨h1, h2⟩ := cond_some h
      cases h2
      have := beqB_eq h1; subst this
      exact ⟨SubD.refl _ _, fun _ _ _ g => g, fun E ES u R hu => by simp only [conc, BE.den] at hu ⊢; exact hu⟩
    · cases h
  · rename_i j
    split at h
    · rename_i b' hb'
      obtain ⟨h1, h2⟩ := cond_some h
      cases h2
      have := eqBE_eq _ _ h1; subst this
      exact ⟨SubD.refl _ _, fun _ _ _ g => g, fun E ES u R hu => by simp only [conc, BE.den, R.bs _ _ hb'] at hu ⊢; exact hu⟩
    · rename_i hn
      cases h
      refine ⟨⟨fun _ _ h => h, fun _ _ h => h, SubR.refl _ _, fun i e1 hi => ?_⟩, fun _ _ _ g => g, fun E ES u R hu => ?_⟩
      · rw [lFind_cons]
        cases hb : Nat.beq j i with
        | true => have := beq_t.1 hb; subst this; rw [hn] at hi; cases hi
        | false => exact hi
      · have := R.bs j b (by rw [lFind_cons, beq_t.2 rfl]; rfl)
        simp only [conc, BE.den, this] at hu ⊢; exact hu
  · cases h

theorem bdO_ok {n j : Nat} {v : AV} {B B' : Bd} (h : bdO j v B = some B') : BdOk n B B' (fun E u => conc E (.opq j) = some u) (fun E u => conc E v = some u) := by
  unfold bdO at h
  split at h
  · rename_i v' hv'
    obtain ⟨h1, h2⟩ := cond_some h
    cases h2
    have := eqAV_eq _ _ h1; subst this
    exact ⟨SubD.refl _ _, fun _ _ _ g => g, fun E ES u R hu => by have := R.os _ _ hv'; rw [hu] at this; simp only [conc]; exact this.symm⟩
  · rename_i hn
    cases h
    refine ⟨⟨fun _ _ h => h, fun i e1 hi => ?_, SubR.refl _ _, fun _ _ h => h⟩, fun E u hu g i v1 hi => ?_, fun E ES u R hu => ?_⟩
    · rw [lFind_cons]
      cases hb : Nat.beq j i with
      | true => have := beq_t.1 hb; subst this; rw [hn] at hi; cases hi
      | false => exact hi
    · rw [lFind_cons] at hi
      cases hb : Nat.beq j i with
      | true => rw [hb] at hi; cases hi; exact ⟨u, hu⟩
      | false => rw [hb] at hi; exact g i v1 hi
    · have := R.os j v (by rw [lFind_cons, beq_t.2 rfl]; rfl)
      rw [hu] at this; simp only [conc]; exact this.symm

mutual
theorem bdV_ok {n : Nat} : ∀ (a a' : AV) (B B' : Bd), bdV n a a' B = some B' → BdOk n B B' (fun E u => conc E a = some u) (fun E u => conc E a' = some u)
  | .int k x, a', B, B', h => by
    cases a' <;> simp only [bdV] at h <;> first | (cases h; done) | skip
    rename_i k' e
    obtain ⟨hk, h2⟩ := cond_some h
    have hk := kindEq_eq hk
    subst hk
    exact bdI_ok h2
  | .opq j, v, B, B', h => by
    simp only [bdV] at h
    exact bdO_ok h
  | .ptr b o, a', B, B', h => by
    cases a' <;> simp only [bdV] at h <;> first | (cases h; done) | skip
    obtain ⟨h1, h2, h3, h4⟩ := bd_bind h
    have := beq_t.1 h1; subst this
    exact ⟨h2, fun E u _ g => by unfold GoodD; rw [h3]; exact g, fun E ES u R hu => by simp only [conc, (h4 E ES R).1] at hu ⊢; exact hu⟩
  | .slice b o l c, a', B, B', h => by
    cases a' <;> simp only [bdV] at h <;> first | (cases h; done) | skip
    obtain ⟨h1, h2, h3, h4⟩ := bd_bind h
    simp only [Bool.and_eq_true] at h1
    have e1 := beq_t.1 h1.1; have e2 := beq_t.1 h1.2.1; have e3 := beq_t.1 h1.2.2; subst e1; subst e2; subst e3
    exact ⟨h2, fun E u _ g => by unfold GoodD; rw [h3]; exact g, fun E ES u R hu => by simp only [conc, (h4 E ES R).1] at hu ⊢; exact hu⟩
  | .sliceX b o l c, a', B, B', h => by
    cases a' <;> simp only [bdV] at h <;> first | (cases h; done) | skip
    obtain ⟨h1, h2, h3, h4⟩ := bd_bind h
    simp only [Bool.and_eq_true] at h1
    have e1 := beq_t.1 h1.1; have e2 := beq_t.1 h1.2.1; have e3 := beq_t.1 h1.2.2; subst e1; subst e2; subst e3
    exact ⟨h2, fun E u _ g => by unfold GoodD; rw [h3]; exact g, fun E ES u R hu => by simp only [conc, (h4 E ES R).1, (h4 E ES R).2] at hu ⊢; exact hu⟩
  | .agg x, a', B, B', h => by
    cases a' <;> simp only [bdV] at h <;> first | (cases h; done) | skip
    obtain ⟨q1, q2, q3⟩ := bdL_ok x _ B B' h
    refine ⟨q1, fun E u hu g => ?_, fun E ES u R hu => ?_⟩
    · simp only [conc, Option.map_eq_some_iff] at hu
      obtain ⟨us, h1, _⟩ := hu
      exact q2 E us h1 g
    · simp only [conc, Option.map_eq_some_iff] at hu ⊢
      obtain ⟨us, h1, h2⟩ := hu
      exact ⟨us, q3 E ES us R h1, h2⟩
  | .tup x, a', B, B', h => by
    cases a' <;> simp only [bdV] at h <;> first | (cases h; done) | skip
    obtain ⟨q1, q2, q3⟩ := bdL_ok x _ B B' h
    refine ⟨q1, fun E u hu g => ?_, fun E ES u R hu => ?_⟩
    · simp only [conc, Option.map_eq_some_iff] at hu
      obtain ⟨us, h1, _⟩ := hu
      exact q2 E us h1 g
    · simp only [conc, Option.map_eq_some_iff] at hu ⊢
      obtain ⟨us, h1, h2⟩ := hu
      exact ⟨us, q3 E ES us R h1, h2⟩
  | .func fn x y, a', B, B', h => by
    cases a' <;> simp only [bdV] at h <;> first | (cases h; done) | skip
    rename_i fn' x' y'
    obtain ⟨h1, h2⟩ := cond_some h
    have e1 := eqFn_eq h1; subst e1
    cases h3 : bdL n x x' B with
    | none => rw [h3] at h2; cases h2
    | some B1 =>
      rw [h3] at h2
      obtain ⟨q1, q2, q3⟩ := bdL_ok x _ B B1 h3
      obtain ⟨q4, q5, q6⟩ := bdL_ok y _ B1 B' h2
      have parts : ∀ E u, conc E (.func fn x' y') = some u → ∃ us vs, concL E x' = some us ∧ concL E y' = some vs := fun E u hu => by
        simp only [conc] at hu
        cases hx : concL E x' with
        | none => rw [hx] at hu; cases fn <;> simp at hu
        | some us =>
          cases hy : concL E y' with
          | none => rw [hx, hy] at hu; cases fn <;> simp at hu
          | some vs => exact ⟨us, vs, rfl, rfl⟩
      refine ⟨q1.trans q4, fun E u hu g => ?_, fun E ES u R hu => ?_⟩
      · obtain ⟨us, vs, h5, h6⟩ := parts E u hu
        exact q5 E vs h6 (q2 E us h5 g)
      · obtain ⟨us, vs, h5, h6⟩ := parts E u hu
        simp only [conc, h5, h6] at hu
        simp only [conc, q3 E ES us (R.sub q4) h5, q6 E ES vs R h6]
        exact hu
  | .bool b, a', B, B', h => by
    cases a' <;> simp only [bdV] at h <;> first | (cases h; done) | skip
    exact bdB_ok h
  | .nilptr, a', B, B', h => by
    cases a' <;> simp only [bdV] at h <;> first | (cases h; done) | skip
    cases h; exact ⟨SubD.refl _ _, fun _ _ _ g => g, fun E ES u R hu => hu⟩
  | .nilslice, a', B, B', h => by
    cases a' <;> simp only [bdV] at h <;> first | (cases h; done) | skip
    cases h; exact ⟨SubD.refl _ _, fun _ _ _ g => g, fun E ES u R hu => hu⟩
  | .sliceU i, a', B, B', h => by
    cases a' <;> simp only [bdV] at h <;> first | (cases h; done) | skip
    rename_i j
    split at h
    · rename_i B1 h1
      obtain ⟨p1, p2, p3⟩ := bdI_ok (n := n) (k := .i64) h1
      obtain ⟨q1, q2, q3⟩ := bdO_ok (n := n) h
      have hint : ∀ E : Env, conc E (.int .i64 (.var j)) = some (.int .i64 (E.ρ.iv j)) := fun E => rfl
      refine ⟨p1.trans q1, fun E u hu g => q2 E u hu (p2 E _ (hint E) g), fun E ES u R hu => ?_⟩
      have e1 := p3 E ES _ (R.sub q1) (hint E)
      have e2 := q3 E ES u R hu
      simp only [conc, IE.den, Option.some.injEq, Value.int.injEq, true_and] at e1 e2
      obtain ⟨p, m, c, rfl, hm⟩ := sliceU_conc hu
      simp only [conc, e2]
      rw [if_pos (by rw [e1, hm])]
    · cases h
  | .sliceV b i, a', B, B', h => by
    cases a' <;> simp only [bdV] at h <;> first | (cases h; done) | skip
    rename_i b' j
    split at h
    · rename_i B1 h1
      obtain ⟨p1, p2, p3⟩ := bdI_ok (n := n) (k := .i64) h1
      obtain ⟨h1, h2, h3, h4⟩ := bd_bind (c := true) h
      have hint : ∀ E : Env, conc E (.int .i64 (.var j)) = some (.int .i64 (E.ρ.iv j)) := fun E => rfl
      refine ⟨p1.trans h2, fun E u hu g => by unfold GoodD; rw [h3]; exact p2 E _ (hint E) g, fun E ES u R hu => ?_⟩
      have e1 := p3 E ES _ (R.sub h2) (hint E)
      simp only [conc, IE.den, Option.some.injEq, Value.int.injEq, true_and] at e1
      simp only [conc, (h4 E ES R).1, (h4 E ES R).2, e1] at hu ⊢; exact hu
    · cases h
  | .nilmap, a', B, B', h => by
    cases a' <;> simp only [bdV] at h <;> first | (cases h; done) | skip
    cases h; exact ⟨SubD.refl _ _, fun _ _ _ g => g, fun E ES u R hu => hu⟩
  | .nilFunc, a', B, B', h => by
    cases a' <;> simp only [bdV] at h <;> first | (cases h; done) | skip
    cases h; exact ⟨SubD.refl _ _, fun _ _ _ g => g, fun E ES u R hu => hu⟩
  | .map b, a', B, B', h => by
    cases a' <;> simp only [bdV] at h <;> first | (cases h; done) | skip
    obtain ⟨h1, h2, h3, h4⟩ := bd_bind h
    exact ⟨h2, fun E u _ g => by unfold GoodD; rw [h3]; exact g, fun E ES u R hu => by simp only [conc, (h4 E ES R).1] at hu ⊢; exact hu⟩
  | .yieldF b, a', B, B', h => by cases a' <;> simp only [bdV] at h <;> cases h
  | .bad, a', B, B', h => by cases a' <;> simp only [bdV] at h <;> cases h
theorem bdL_ok {n : Nat} : ∀ (l l' : List AV) (B B' : Bd), bdL n l l' B = some B' → SubD n B B' ∧ (∀ E us, concL E l' = some us → GoodD E B → GoodD E B') ∧ ∀ E ES us, RelD n E ES B' → concL E l' = some us → concL ES l = some us
  | [], l', B, B', h => by
    cases l' <;> simp only [bdL] at h
    · cases h; exact ⟨SubD.refl _ _, fun _ _ _ g => g, fun E ES us R hu => hu⟩
    · cases h
  | a :: l, l', B, B', h => by
    cases l' with
    | nil => simp only [bdL] at h; cases h
    | cons b m =>
      simp only [bdL] at h
      cases h3 : bdV n a b B with
      | none => rw [h3] at h; cases h
      | some B1 =>
        rw [h3] at h
        obtain ⟨q1, q2, q3⟩ := bdV_ok a b B B1 h3
        obtain ⟨q4, q5, q6⟩ := bdL_ok l m B1 B' h
        refine ⟨q1.trans q4, fun E us hu g => ?_, fun E ES us R hu => ?_⟩
        · obtain ⟨v, r, h5, h6, rfl⟩ := concL_cons.1 hu
          exact q5 E r h6 (q2 E v h5 g)
        · obtain ⟨v, r, h5, h6, rfl⟩ := concL_cons.1 hu
          exact concL_cons.2 ⟨v, r, q3 E ES v (R.sub q4) h5, q6 E ES r R h6, rfl⟩
end

noncomputable def bdSl (n : Nat) (t : PT AV) : List (Nat × AV) → Bd → Option Bd
  | [], B => some B
  | g :: l, B => (match t.get g.1 with
    | some v => (match bdV n g.2 v B with
      | some B' => bdSl n t l B'
      | none => none)
    | none => none)
/-- a block of a loop: what it has at the start, as each round begins, and, if it is written, at the end -/
structure VS where
  id : Nat
  own : Option (TypeId × Bool)
  c0 : List AV
  c : List AV
  cf : List AV
  u : Option (Nat × List Bool)
noncomputable def bdG (v : VS) (o : Option AObj) : Option (List AV) :=
  match o with
  | some (.cells cs el own ext) => (match v.own with
    | none => some cs
    | some q => cond (and own (and (Nat.beq q.1 el) (beqB q.2 ext))) (some cs) none)
  | _ => none
noncomputable def eqKs : List Bool → List Bool → Bool
  | [], [] => true
  | a :: l, b :: m => and (beqB a b) (eqKs l m)
  | _, _ => false
theorem eqKs_eq : ∀ {l m : List Bool}, eqKs l m = true → l = m
  | [], [], _ => rfl
  | [], _ :: _, h => by cases h
  | _ :: _, [], h => by cases h
  | a :: l, b :: m, h => by
    simp only [eqKs, Bool.and_eq_true] at h
    rw [beqB_eq h.1, eqKs_eq h.2]
/-- a list that is not known: its length has the same name -/
noncomputable def bdU (v : VS) (q : Nat × List Bool) (o : Option AObj) (B : Bd) : Option Bd :=
  match o with
  | some (.ucells j ks) => cond (and v.own.isNone (and (Nat.beq q.1 j) (eqKs q.2 ks))) (bdI (.var j) (.var j) B) none
  | _ => none
noncomputable def bdC (n : Nat) (v : VS) (o : Option AObj) (B : Bd) : Option Bd :=
  match v.u with
  | none => (match bdG v o with
    | some cs => bdL n v.c0 cs B
    | none => none)
  | some q => bdU v q o B
noncomputable def bdVw (n : Nat) (h : Heap) : List VS → Bd → Option Bd
  | [], B => some B
  | g :: l, B => (match cond (Nat.ble (Nat.succ g.id) 1000) (some g.id) (cond (Nat.ble (Nat.succ g.id) n) (lFind B.r g.id) none) with
    | some b => (match bdC n g (h.get b) B with
      | some B' => bdVw n h l B'
      | none => none)
    | none => none)

/-- what a state's variables are read as -/
noncomputable def rhoD (E : Env) (B : Bd) : Rho :=
  ⟨fun j => match lFind B.is j with | some e => e.den E.ρ | none => 0, fun j => match lFind B.bs j with | some e => e.den E.ρ | none => false, E.ρ.fi, E.ρ.fb, fun j => match lFind B.os j with | some v => (match conc E v with | some u => u | none => .tuple #[]) | none => .tuple #[]⟩
noncomputable def sigD (n : Nat) (E : Env) (B : Bd) : Nat → Option (Nat × Nat) := fun b => if b < 1000 then some (b, 0) else if b < n then (match lFind B.r b with | some c => E.σ c | none => none) else none
noncomputable def kapD (n : Nat) (E : Env) (B : Bd) : Nat → Nat := fun b => if b < 1000 then E.κ b else if b < n then (match lFind B.r b with | some c => E.κ c | none => 0) else 0
noncomputable def envD (n : Nat) (E : Env) (B : Bd) : Env := ⟨rhoD E B, sigD n E B, kapD n E B, n, fun _ => #[]⟩

theorem envD_rel {n : Nat} {E : Env} {B : Bd} (hg : ∀ b, b < 1000 → E.σ b = some (b, 0)) (hG : GoodD E B) : RelD n E (envD n E B) B := by
  refine ⟨fun j e h => ?_, fun j v h => ?_, fun b hb => ?_, fun b c h1 h2 e => ?_, fun j e h => by simp only [envD, rhoD, h]⟩
  · simp only [envD, rhoD, h]
  · obtain ⟨u, hu⟩ := hG j v h
    simp only [envD, rhoD, h, hu]
  · simp only [envD, sigD, kapD, if_pos hb, hg b hb, and_self]
  · simp only [envD, sigD, kapD, if_neg (show ¬ b < 1000 by omega), if_pos h2, e, and_self]

theorem bdSl_ok {n : Nat} {t : PT AV} : ∀ (l : List (Nat × AV)) (B B' : Bd), bdSl n t l B = some B' → SubD n B B' ∧
    (∀ E, (∀ g ∈ l, ∀ v, t.get g.1 = some v → ∃ u, conc E v = some u) → GoodD E B → GoodD E B') ∧
    ∀ g ∈ l, ∃ v, t.get g.1 = some v ∧ ∀ E ES u, RelD n E ES B' → conc E v = some u → conc ES g.2 = some u
  | [], B, B', h => by simp only [bdSl, Option.some.injEq] at h; subst h; exact ⟨SubD.refl _ _, fun _ _ g => g, fun g hg => by cases hg⟩
  | g :: l, B, B', h => by
    simp only [bdSl] at h
    split at h
    · rename_i v hv
      split at h
      · rename_i B1 h1
        obtain ⟨q1, q2, q3⟩ := bdV_ok _ _ _ _ h1
        obtain ⟨q4, q5, q6⟩ := bdSl_ok l B1 B' h
        refine ⟨q1.trans q4, fun E hc G => ?_, fun g' hg' => ?_⟩
        · obtain ⟨u, hu⟩ := hc g List.mem_cons_self v hv
          exact q5 E (fun g' hg' => hc g' (List.mem_cons_of_mem _ hg')) (q2 E u hu G)
        · rcases List.mem_cons.1 hg' with rfl | hg'
          · exact ⟨v, hv, fun E ES u R hu => q3 E ES u (R.sub q4) hu⟩
          · exact q6 g' hg'
      · cases h
    · cases h

/-- a block of the loop: which block it is here -/
structure VAt (p : Par) (E ES : Env) (h : Heap) (w : World) (r : Ren) (n : Nat) (g : VS) : Prop where
  at_ : ∃ b o, (cond (Nat.ble (Nat.succ g.id) 1000) (some g.id) (cond (Nat.ble (Nat.succ g.id) n) (lFind r g.id) none)) = some b ∧ h.get b = some o ∧ ES.σ g.id = E.σ b ∧ (g.own.isSome = true → ownO o = true) ∧ (ownO o = true ∨ roO o = true) ∧ ∃ c x, E.σ b = some (c, x)
  obj : objOk p ES g.id (VB.obj ⟨g.id, g.c0, g.own, g.u⟩) w.heap

theorem bdVw_ok {n : Nat} {h : Heap} : ∀ (l : List VS) (B B' : Bd), bdVw n h l B = some B' → SubD n B B' ∧
    (∀ {p : Par} {E : Env} {w0 : Base} {w : World}, HeapOk p E h w0 w → GoodD E B → GoodD E B') ∧
    ∀ {p : Par} {E ES : Env} {w0 : Base} {w : World}, RelD n E ES B' → ES.ρ.fi = E.ρ.fi → ES.ρ.fb = E.ρ.fb → HeapOk p E h w0 w → ∀ g ∈ l, VAt p E ES h w B'.r n g
  | [], B, B', e => by simp only [bdVw, Option.some.injEq] at e; subst e; exact ⟨SubD.refl _ _, fun _ g => g, fun _ _ _ _ g hg => by cases hg⟩
  | g :: l, B, B', e => by
    simp only [bdVw] at e
    split at e
    · rename_i b hb
      split at e
      · rename_i B1 h0
        obtain ⟨q4, q5, q6⟩ := bdVw_ok l B1 B' e
        unfold bdC at h0
        split at h0
        · rename_i hgu
          split at h0
          · rename_i cs hcs
            rename_i h1
            obtain ⟨q1, q2, q3⟩ := bdL_ok _ _ _ _ h0
            unfold bdG at hcs
            split at hcs
            · rename_i cs' el own ext hg
              have hcs' : cs' = cs := by
                split at hcs
                · cases hcs; rfl
                · have := (cond_some hcs).2; cases this; rfl
              subst hcs'
              refine ⟨q1.trans q4, fun {p E w0 w} HH G => ?_, fun {p E ES w0 w} R hfi hfb HH g' hg' => ?_⟩
              · obtain ⟨c, base, vs, cells, el', fz, k1, k2, k3, k4, k5⟩ := HH.obj _ _ hg
                exact q5 HH (q2 E vs k2 G)
              · rcases List.mem_cons.1 hg' with rfl | hg'
                · obtain ⟨c, base, vs, cells, el', fz, k1, k2, k3, k4, k5⟩ := HH.obj _ _ hg
                  obtain ⟨z0, z1⟩ := resolve_sub (q1.trans q4).r hb
                  have hσ := z1 ⟨E.ρ, E.σ, E.κ, E.n, E.rc⟩ ⟨E.ρ, ES.σ, ES.κ, ES.n, ES.rc⟩ ⟨rfl, R.lo, R.at_⟩
                  have hσ1 : ES.σ g'.id = E.σ b := hσ.1
                  have hσ2 : ES.κ g'.id = E.κ b := hσ.2
                  have hvs := q3 E ES vs (R.sub q4) k2
                  cases hown : g'.own with
                  | none =>
                    refine ⟨⟨b, _, z0, hg, hσ1, fun h => (by rw [hown] at h; cases h), (by cases own; exact .inr rfl; exact .inl rfl), c, base, k1⟩, ?_⟩
                    have e : VB.obj ⟨g'.id, g'.c0, g'.own, g'.u⟩ = .cells g'.c0 0 false false := by unfold VB.obj; simp only [hown, hgu]
                    rw [e]
                    exact ⟨c, base, vs, cells, el', fz, hσ1.trans k1, hvs, k3, k4, fun h => by cases h⟩
                  | some q =>
                    rw [hown] at hcs
                    have h2 := (cond_some hcs).1
                    simp only [Bool.and_eq_true] at h2
                    obtain ⟨h4, h5, h6⟩ := h2
                    have h5 := beq_t.1 h5; have h6 := beqB_eq h6
                    subst h4
                    refine ⟨⟨b, _, z0, hg, hσ1, fun _ => rfl, .inl rfl, c, base, k1⟩, ?_⟩
                    have e : VB.obj ⟨g'.id, g'.c0, g'.own, g'.u⟩ = .cells g'.c0 q.1 true q.2 := by unfold VB.obj; simp only [hown]
                    rw [e, h5, h6]
                    exact ⟨c, base, vs, cells, el', fz, hσ1.trans k1, hvs, k3, k4, by rw [hσ2]; exact k5⟩
                · exact q6 R hfi hfb HH g' hg'
            · cases hcs
          · cases h0
        · rename_i q hgu
          unfold bdU at h0
          split at h0
          · rename_i j ks hg
            obtain ⟨hc, h0⟩ := cond_some h0
            simp only [Bool.and_eq_true] at hc
            obtain ⟨hown, hj, hks⟩ := hc
            have hj := beq_t.1 hj; have hks := eqKs_eq hks
            have hown : g.own = none := by cases h : g.own with | none => rfl | some q => rw [h] at hown; cases hown
            obtain ⟨q1, q2, q3⟩ := bdI_ok (n := n) (k := .i64) h0
            have hint : ∀ E : Env, conc E (.int .i64 (.var j)) = some (.int .i64 (E.ρ.iv j)) := fun E => rfl
            refine ⟨q1.trans q4, fun {p E w0 w} HH G => q5 HH (q2 E _ (hint E) G), fun {p E ES w0 w} R hfi hfb HH g' hg' => ?_⟩
            rcases List.mem_cons.1 hg' with rfl | hg'
            · obtain ⟨c, base, cells, el', fz, k1, k3, k4⟩ := HH.obj _ _ hg
              obtain ⟨z0, z1⟩ := resolve_sub (q1.trans q4).r hb
              have hσ := z1 ⟨E.ρ, E.σ, E.κ, E.n, E.rc⟩ ⟨E.ρ, ES.σ, ES.κ, ES.n, ES.rc⟩ ⟨rfl, R.lo, R.at_⟩
              have hσ1 : ES.σ g'.id = E.σ b := hσ.1
              have hiv := q3 E ES _ (R.sub q4) (hint E)
              simp only [conc, IE.den, Option.some.injEq, Value.int.injEq, true_and] at hiv
              refine ⟨⟨b, _, z0, hg, hσ1, fun h => (by rw [hown] at h; cases h), .inr rfl, c, base, k1⟩, ?_⟩
              have e : VB.obj ⟨g'.id, g'.c0, g'.own, g'.u⟩ = .ucells q.1 q.2 := by unfold VB.obj; simp only [hown, hgu]
              rw [e, hj, hks]
              refine ⟨c, base, cells, el', fz, hσ1.trans k1, k3, fun m off k hm hk => ?_⟩
              rw [hiv] at hm
              rw [k4 m off k hm hk]
              unfold cellOf
              rw [hfi, hfb]
            · exact q6 R hfi hfb HH g' hg'
          · cases h0
      · cases e
    · cases e

/-! ## The variables put back -/
noncomputable def sI (B : Bd) : IE → Option IE
  | .lit z => some (.lit z)
  | .var j => lFind B.is j
  | .bin o k a b => (match sI B a, sI B b with
    | some x, some y => some (.bin o k x y)
    | _, _ => none)
  | .conv k a => (match sI B a with
    | some x => some (.conv k x)
    | none => none)
  | .mx a b => (match sI B a, sI B b with
    | some x, some y => some (.mx x y)
    | _, _ => none)
  | .mn a b => (match sI B a, sI B b with
    | some x, some y => some (.mn x y)
    | _, _ => none)
  | .app f a b c => (match sI B a, sI B b, sI B c with
    | some x, some y, some z => some (.app f x y z)
    | _, _, _ => none)

theorem sI_ok {n : Nat} {E ES : Env} {B : Bd} (R : RelD n E ES B) (hfi : ES.ρ.fi = E.ρ.fi) : ∀ (e e' : IE), sI B e = some e' → e'.den E.ρ = e.den ES.ρ
  | .lit z, e', h => by simp only [sI, Option.some.injEq] at h; subst h; rfl
  | .var j, e', h => by simp only [sI] at h; simp only [IE.den, R.is _ _ h]
  | .bin o k a b, e', h => by
    simp only [sI] at h
    split at h
    · rename_i x y hx hy; cases h; simp only [IE.den, sI_ok R hfi a x hx, sI_ok R hfi b y hy]
    · cases h
  | .conv k a, e', h => by
    simp only [sI] at h
    split at h
    · rename_i x hx; cases h; simp only [IE.den, sI_ok R hfi a x hx]
    · cases h
  | .mx a b, e', h => by
    simp only [sI] at h
    split at h
    · rename_i x y hx hy; cases h; simp only [IE.den, sI_ok R hfi a x hx, sI_ok R hfi b y hy]
    · cases h
  | .mn a b, e', h => by
    simp only [sI] at h
    split at h
    · rename_i x y hx hy; cases h; simp only [IE.den, sI_ok R hfi a x hx, sI_ok R hfi b y hy]
    · cases h
  | .app f a b c, e', h => by
    simp only [sI] at h
    split at h
    · rename_i x y z hx hy hz; cases h; simp only [IE.den, hfi, sI_ok R hfi a x hx, sI_ok R hfi b y hy, sI_ok R hfi c z hz]
    · cases h

noncomputable def sB (B : Bd) : BE → Option BE
  | .lit b => some (.lit b)
  | .not a => (match sB B a with
    | some x => some (.not x)
    | none => none)
  | .and a b => (match sB B a, sB B b with
    | some x, some y => some (.and x y)
    | _, _ => none)
  | .cmp o a b => (match sI B a, sI B b with
    | some x, some y => some (.cmp o x y)
    | _, _ => none)
  | .iff a b => (match sB B a, sB B b with
    | some x, some y => some (.iff x y)
    | _, _ => none)
  | .app f a b c => (match sI B a, sI B b, sI B c with
    | some x, some y, some z => some (.app f x y z)
    | _, _, _ => none)
  | .var j => lFind B.bs j

theorem sB_ok {n : Nat} {E ES : Env} {B : Bd} (R : RelD n E ES B) (hfi : ES.ρ.fi = E.ρ.fi) (hfb : ES.ρ.fb = E.ρ.fb) : ∀ (e e' : BE), sB B e = some e' → e'.den E.ρ = e.den ES.ρ
  | .lit z, e', h => by simp only [sB, Option.some.injEq] at h; subst h; rfl
  | .var j, e', h => by simp only [sB] at h; simp only [BE.den, R.bs _ _ h]
  | .not a, e', h => by
    simp only [sB] at h
    split at h
    · rename_i x hx; cases h; simp only [BE.den, sB_ok R hfi hfb a x hx]
    · cases h
  | .and a b, e', h => by
    simp only [sB] at h
    split at h
    · rename_i x y hx hy; cases h; simp only [BE.den, sB_ok R hfi hfb a x hx, sB_ok R hfi hfb b y hy]
    · cases h
  | .cmp o a b, e', h => by
    simp only [sB] at h
    split at h
    · rename_i x y hx hy; cases h; simp only [BE.den, sI_ok R hfi a x hx, sI_ok R hfi b y hy]
    · cases h
  | .iff a b, e', h => by
    simp only [sB] at h
    split at h
    · rename_i x y hx hy; cases h; simp only [BE.den, sB_ok R hfi hfb a x hx, sB_ok R hfi hfb b y hy]
    · cases h
  | .app f a b c, e', h => by
    simp only [sB] at h
    split at h
    · rename_i x y z hx hy hz; cases h; simp only [BE.den, hfb, sI_ok R hfi a x hx, sI_ok R hfi b y hy, sI_ok R hfi c z hz]
    · cases h

mutual
noncomputable def sV (n : Nat) (B : Bd) : AV → Option AV
  | .int k e => (match sI B e with
    | some x => some (.int k x)
    | none => none)
  | .bool e => (match sB B e with
    | some x => some (.bool x)
    | none => none)
  | .opq j => lFind B.os j
  | .ptr b o => (match cond (Nat.ble (Nat.succ b) 1000) (some b) (cond (Nat.ble (Nat.succ b) n) (lFind B.r b) none) with
    | some c => some (.ptr c o)
    | none => none)
  | .slice b o l k => (match cond (Nat.ble (Nat.succ b) 1000) (some b) (cond (Nat.ble (Nat.succ b) n) (lFind B.r b) none) with
    | some c => some (.slice c o l k)
    | none => none)
  | .sliceX b o l k => (match cond (Nat.ble (Nat.succ b) 1000) (some b) (cond (Nat.ble (Nat.succ b) n) (lFind B.r b) none) with
    | some c => some (.sliceX c o l k)
    | none => none)
  | .agg l => (match sVs n B l with
    | some m => some (.agg m)
    | none => none)
  | .tup l => (match sVs n B l with
    | some m => some (.tup m)
    | none => none)
  | .nilptr => some .nilptr
  | .nilslice => some .nilslice
  | .nilmap => some .nilmap
  | .nilFunc => some .nilFunc
  | _ => none
noncomputable def sVs (n : Nat) (B : Bd) : List AV → Option (List AV)
  | [] => some []
  | a :: l => (match sV n B a with
    | some x => (match sVs n B l with
      | some m => some (x :: m)
      | none => none)
    | none => none)
end

mutual
theorem sV_ok {n : Nat} {E ES : Env} {B : Bd} (R : RelD n E ES B) (hfi : ES.ρ.fi = E.ρ.fi) (hfb : ES.ρ.fb = E.ρ.fb) : ∀ (a a' : AV), sV n B a = some a' → conc E a' = conc ES a
  | .int k e, a', h => by
    simp only [sV] at h
    split at h
    · rename_i x hx; cases h; simp only [conc, sI_ok R hfi e x hx]
    · cases h
  | .bool e, a', h => by
    simp only [sV] at h
    split at h
    · rename_i x hx; cases h; simp only [conc, sB_ok R hfi hfb e x hx]
    · cases h
  | .opq j, a', h => by simp only [sV] at h; simp only [conc, R.os _ _ h]
  | .ptr b o, a', h => by
    simp only [sV] at h
    split at h
    · rename_i c hc
      cases h
      have hσ := ((resolve_sub (SubR.refl n B.r) hc).2 ⟨E.ρ, E.σ, E.κ, E.n, E.rc⟩ ⟨E.ρ, ES.σ, ES.κ, ES.n, ES.rc⟩ ⟨rfl, R.lo, R.at_⟩)
      simp only [conc]; rw [hσ.1]
    · cases h
  | .slice b o l k, a', h => by
    simp only [sV] at h
    split at h
    · rename_i c hc
      cases h
      have hσ := ((resolve_sub (SubR.refl n B.r) hc).2 ⟨E.ρ, E.σ, E.κ, E.n, E.rc⟩ ⟨E.ρ, ES.σ, ES.κ, ES.n, ES.rc⟩ ⟨rfl, R.lo, R.at_⟩)
      simp only [conc]; rw [hσ.1]
    · cases h
  | .sliceX b o l k, a', h => by
    simp only [sV] at h
    split at h
    · rename_i c hc
      cases h
      have hσ := ((resolve_sub (SubR.refl n B.r) hc).2 ⟨E.ρ, E.σ, E.κ, E.n, E.rc⟩ ⟨E.ρ, ES.σ, ES.κ, ES.n, ES.rc⟩ ⟨rfl, R.lo, R.at_⟩)
      simp only at hσ
      simp only [conc, hσ.1, hσ.2]
    · cases h
  | .agg l, a', h => by
    simp only [sV] at h
    split at h
    · rename_i m hm; cases h; simp only [conc, sVs_ok R hfi hfb l m hm]
    · cases h
  | .tup l, a', h => by
    simp only [sV] at h
    split at h
    · rename_i m hm; cases h; simp only [conc, sVs_ok R hfi hfb l m hm]
    · cases h
  | .nilptr, a', h => by simp only [sV, Option.some.injEq] at h; subst h; rfl
  | .nilslice, a', h => by simp only [sV, Option.some.injEq] at h; subst h; rfl
  | .nilmap, a', h => by simp only [sV, Option.some.injEq] at h; subst h; rfl
  | .nilFunc, a', h => by simp only [sV, Option.some.injEq] at h; subst h; rfl
  | .map _, a', h => by simp only [sV] at h; cases h
  | .func _ _ _, a', h => by simp only [sV] at h; cases h
  | .yieldF _, a', h => by simp only [sV] at h; cases h
  | .bad, a', h => by simp only [sV] at h; cases h
theorem sVs_ok {n : Nat} {E ES : Env} {B : Bd} (R : RelD n E ES B) (hfi : ES.ρ.fi = E.ρ.fi) (hfb : ES.ρ.fb = E.ρ.fb) : ∀ (l l' : List AV), sVs n B l = some l' → concL E l' = concL ES l
  | [], l', h => by simp only [sVs, Option.some.injEq] at h; subst h; rfl
  | a :: l, l', h => by
    simp only [sVs] at h
    split at h
    · rename_i x hx
      split at h
      · rename_i m hm; cases h; simp only [concL, sV_ok R hfi hfb a x hx, sVs_ok R hfi hfb l m hm]
      · cases h
    · cases h
end

/-- A LOOP, AS IT IS SAID: how it begins, how each round begins, on what terms, and what it leaves. -/
structure LSpec where
  sl0 : List (Nat × AV)
  sl : List (Nat × AV)
  vs : List VS
  nv : Nat
  dom : List BE
  out : T (Ex × List (Nat × AV))

/-- where a tree ends -/
noncomputable def T.end_ {α : Type} (ρ : Rho) : T α → Option α
  | .ret a => some a
  | .fail _ => none
  | .br c x y => if c.den ρ = true then x.end_ ρ else y.end_ ρ
theorem T.end_holds {α : Type} {ρ : Rho} {P : α → Prop} : ∀ {t : T α}, t.Holds ρ P → ∃ a, t.end_ ρ = some a ∧ P a
  | .ret a, h => ⟨a, rfl, h⟩
  | .fail _, h => h.elim
  | .br c x y, h => by
    simp only [T.Holds] at h
    simp only [T.end_]
    split at h
    · rename_i hc; rw [if_pos hc]; exact T.end_holds h
    · rename_i hc; rw [if_neg hc]; exact T.end_holds h

def LSpec.T (L : LSpec) : Tmpl := ⟨L.sl, L.vs.map fun g => ⟨g.id, g.c, g.own, g.u⟩, L.nv⟩

noncomputable def sBs (B : Bd) : List BE → Option (List BE)
  | [] => some []
  | a :: l => (match sB B a with
    | some x => (match sBs B l with
      | some m => some (x :: m)
      | none => none)
    | none => none)
noncomputable def sSl (n : Nat) (B : Bd) : List (Nat × AV) → Option (List (Nat × AV))
  | [] => some []
  | g :: l => (match sV n B g.2 with
    | some x => (match sSl n B l with
      | some m => some ((g.1, x) :: m)
      | none => none)
    | none => none)
/-- the blocks that are written, here -/
noncomputable def sOut (n : Nat) (B : Bd) : List VS → Option (List (Nat × AObj))
  | [] => some []
  | g :: l => (match g.own with
    | none => sOut n B l
    | some q => (match lFind B.r g.id, sVs n B g.cf, sOut n B l with
      | some b, some cs, some m => some ((b, .cells cs q.1 true q.2) :: m)
      | _, _, _ => none))
noncomputable def vsUp : Nat → List VS → Bool
  | _, [] => true
  | n, g :: l => cond (Nat.ble n g.id) (vsUp (Nat.succ g.id) l) false
noncomputable def brAll {α : Type} (t : T α) : List BE → T α
  | [] => t
  | c :: l => .br c (brAll t l) (.fail 99)
theorem brAll_holds {α : Type} {ρ : Rho} {Q : α → Prop} {t : T α} : ∀ {l : List BE}, (brAll t l).Holds ρ Q → (∀ c ∈ l, c.den ρ = true) ∧ t.Holds ρ Q
  | [], h => ⟨fun c hc => (by cases hc), h⟩
  | c :: l, h => by
    simp only [brAll, T.Holds] at h
    split at h
    · rename_i hc
      obtain ⟨a1, a2⟩ := brAll_holds h
      exact ⟨fun d hd => by
        rcases List.mem_cons.1 hd with rfl | hd
        · exact hc
        · exact a1 d hd, a2⟩
    · exact h.elim

/-- the outcomes, here -/
noncomputable def sO (n : Nat) (B : Bd) (t : T (Ex × List (Nat × AV))) : Option (T (Ex × List (Nat × AV))) :=
  @T.rec (Ex × List (Nat × AV)) (fun _ => Option (T (Ex × List (Nat × AV)))) (fun a => match sSl n B a.2 with
    | some l => some (.ret (a.1, l))
    | none => none)
    (fun c _ _ x y => match sB B c, x, y with
      | some d, some x, some y => some (.br d x y)
      | _, _, _ => none) (fun w => some (.fail w)) t

theorem sO_end {n : Nat} {E ES : Env} {B : Bd} (R : RelD n E ES B) (hfi : ES.ρ.fi = E.ρ.fi) (hfb : ES.ρ.fb = E.ρ.fb) {P : Ex × List (Nat × AV) → Prop} : ∀ (t t' : T (Ex × List (Nat × AV))), sO n B t = some t' → t'.Holds E.ρ P → ∀ o, t.end_ ES.ρ = some o → ∃ l, sSl n B o.2 = some l ∧ P (o.1, l)
  | .ret a, t', h, k, o, ho => by
    have h : (match sSl n B a.2 with
      | some l => some (T.ret (a.1, l))
      | none => none) = some t' := h
    simp only [T.end_, Option.some.injEq] at ho
    subst ho
    split at h
    · rename_i l hl; cases h; exact ⟨l, hl, k⟩
    · cases h
  | .fail w, t', h, k, o, ho => by cases ho
  | .br c x y, t', h, k, o, ho => by
    have h : (match sB B c, sO n B x, sO n B y with
      | some d, some x, some y => some (T.br d x y)
      | _, _, _ => none) = some t' := h
    split at h
    · rename_i d x' y' hd hx hy
      cases h
      simp only [T.Holds] at k
      simp only [T.end_] at ho
      rw [sB_ok R hfi hfb c d hd] at k
      split at k
      · rename_i hc; rw [if_pos hc] at ho; exact sO_end R hfi hfb x x' hx k o ho
      · rename_i hc; rw [if_neg hc] at ho; exact sO_end R hfi hfb y y' hy k o ho
    · cases h

noncomputable def LSpec.run (L : LSpec) : C := fun _ wh s =>
  match wh.rd with
  | some _ => .fail 96
  | none => (match s.df with
    | _ :: _ => .fail 96
    | [] => (match bdSl L.nv s.tm.tree L.sl0 ⟨[], [], [], []⟩ with
      | none => .fail 97
      | some B0 => (match bdVw L.nv s.h L.vs B0 with
        | none => .fail 98
        | some B => cond (injR B.r) (match sBs B L.dom with
          | none => .fail 94
          | some cs => (match sO L.nv B L.out with
            | none => .fail 95
            | some out => (match sOut L.nv B L.vs with
              | none => .fail 93
              | some outs => brAll (out.bind fun o => .ret (o.1, ⟨⟨[], treeOf o.2⟩, [], putL outs s.h⟩)) cs))) (.fail 92))))

/-- what a loop's rounds must be, for it to be as it is said -/
def LSpec.Ok (L : LSpec) (cx : Cx) (wh : Wh) (body : C) : Prop := ∀ (ρ : Rho), (∀ c ∈ L.dom, c.den ρ = true) → ∃ (M : Nat) (At : Nat → Rho → Prop) (ρ0 : Rho), At 0 ρ0 ∧
  (∀ g ∈ L.sl, ∃ v, (g.1, v) ∈ L.sl0 ∧ SameV ρ v ρ0 g.2) ∧
  (∀ g ∈ L.vs, SameL ρ g.c0 ρ0 g.c ∧ SameU ρ ρ0 g.u) ∧
  ∀ i ρ', i ≤ M → At i ρ' → (body cx wh L.T.st).Holds ρ' fun r => (r.1 = .norm ∧ ∃ ρ'', (i < M ∧ At (i + 1) ρ'') ∧ Next L.T ρ' ρ'' r.2) ∨
    (r.1 ≠ .norm ∧ r.2.df = [] ∧ (∃ o, L.out.end_ ρ = some o ∧ r.1 = o.1 ∧ ∀ g ∈ o.2, idsLt L.nv g.2 = true ∧ ∃ v, r.2.tm.tree.get g.1 = some v ∧ SameV ρ' v ρ g.2) ∧
      ∀ g ∈ L.vs, ∀ q, g.own = some q → ∃ cs, r.2.h.get g.id = some (.cells cs q.1 true q.2) ∧ SameL ρ' cs ρ g.cf)

/-- the same, where something is known of the numbers: 'ok' in each round, 'st' as the loop starts -/
def LSpec.OkP (L : LSpec) (ok st : Rho → (Nat → Obj → Prop) → Prop) (cx : Cx) (wh : Wh) (body : C) : Prop := ∀ (ρ : Rho) (m : Nat → Obj → Prop), st ρ m → (∀ c ∈ L.dom, c.den ρ = true) → ∃ (M : Nat) (At : Nat → Rho → Prop) (ρ0 : Rho), (∀ i ρ', At i ρ' → ok ρ' m) ∧ At 0 ρ0 ∧
  (∀ g ∈ L.sl, ∃ v, (g.1, v) ∈ L.sl0 ∧ SameV ρ v ρ0 g.2) ∧
  (∀ g ∈ L.vs, SameL ρ g.c0 ρ0 g.c ∧ SameU ρ ρ0 g.u) ∧
  ∀ i ρ', i ≤ M → At i ρ' → (body cx wh L.T.st).Holds ρ' fun r => (r.1 = .norm ∧ ∃ ρ'', (i < M ∧ At (i + 1) ρ'') ∧ Next L.T ρ' ρ'' r.2) ∨
    (r.1 ≠ .norm ∧ r.2.df = [] ∧ (∃ o, L.out.end_ ρ = some o ∧ r.1 = o.1 ∧ ∀ g ∈ o.2, idsLt L.nv g.2 = true ∧ ∃ v, r.2.tm.tree.get g.1 = some v ∧ SameV ρ' v ρ g.2) ∧
      ∀ g ∈ L.vs, ∀ q, g.own = some q → ∃ cs, r.2.h.get g.id = some (.cells cs q.1 true q.2) ∧ SameL ρ' cs ρ g.cf)
theorem LSpec.Ok.toP {L : LSpec} {cx : Cx} {wh : Wh} {body : C} (h : L.Ok cx wh body) {ok : Rho → (Nat → Obj → Prop) → Prop} (hAll : ∀ ρ m, ok ρ m) : L.OkP ok (fun _ _ => True) cx wh body := by
  intro ρ m _ hdom
  obtain ⟨M, At, ρ0, h1, h2⟩ := h ρ hdom
  exact ⟨M, At, ρ0, fun _ ρ' _ => hAll ρ' m, h1, h2⟩
/-- lists whose names a loop keeps -/
noncomputable def keepsB (B : Bd) : List Nat → Bool
  | [] => true
  | j :: l => and (match lFind B.os j with
    | some (.sliceU k) => Nat.beq j k
    | _ => false) (and (match lFind B.is j with
    | some (.var k) => Nat.beq j k
    | _ => false) (keepsB B l))
noncomputable def keepsL (L : LSpec) (fix : List Nat) (s : St) : Bool :=
  match bdSl L.nv s.tm.tree L.sl0 ⟨[], [], [], []⟩ with
  | none => true
  | some B0 => (match bdVw L.nv s.h L.vs B0 with
    | none => true
    | some B => keepsB B fix)
noncomputable def LSpec.runF (L : LSpec) (fix : List Nat) : C := fun cx wh s => cond (keepsL L fix s) (L.run cx wh s) (.fail 91)
theorem LSpec.runF_nil (L : LSpec) : L.runF [] = L.run := by
  funext cx wh s
  have : keepsL L [] s = true := by
    unfold keepsL
    split
    · rfl
    · split <;> rfl
  unfold LSpec.runF
  rw [this, cond_true]
theorem keepsB_ok {B : Bd} {E : Env} (G : GoodD E B) : ∀ fix, keepsB B fix = true → ∀ j ∈ fix, (rhoD E B).ov j = E.ρ.ov j ∧ (rhoD E B).iv j = E.ρ.iv j
  | [], _, j, hj => (List.not_mem_nil hj).elim
  | i :: l, h, j, hj => by
    simp only [keepsB, Bool.and_eq_true] at h
    obtain ⟨h1, h2, h3⟩ := h
    rcases List.mem_cons.1 hj with rfl | hj
    · constructor
      · split at h1
        · rename_i k hk
          have := beq_t.1 h1; subst this
          obtain ⟨u, hu⟩ := G _ _ hk
          simp only [rhoD, hk, hu]
          obtain ⟨p, n, c, e1, e2⟩ := sliceU_conc hu
          subst e1
          simp only [conc] at hu
          split at hu
          · rename_i p' n' c' he
            split at hu
            · cases hu; exact he.symm
            · cases hu
          · cases hu
        · cases h1
      · split at h2
        · rename_i k hk
          have := beq_t.1 h2; subst this
          simp only [rhoD, hk, IE.den]
        · cases h2
    · exact keepsB_ok G l h3 j hj

theorem sSl_ok {n : Nat} {B : Bd} : ∀ (l l' : List (Nat × AV)), sSl n B l = some l' → ∀ q ∈ l', ∃ g ∈ l, g.1 = q.1 ∧ sV n B g.2 = some q.2
  | [], l', h, q, hq => by simp only [sSl, Option.some.injEq] at h; subst h; cases hq
  | g :: l, l', h, q, hq => by
    simp only [sSl] at h
    split at h
    · rename_i x hx
      split at h
      · rename_i m hm
        cases h
        rcases List.mem_cons.1 hq with rfl | hq
        · exact ⟨g, List.mem_cons_self, rfl, hx⟩
        · obtain ⟨g', h1, h2, h3⟩ := sSl_ok l m hm q hq
          exact ⟨g', List.mem_cons_of_mem _ h1, h2, h3⟩
      · cases h
    · cases h
theorem sOut_ok {n : Nat} {B : Bd} : ∀ (l : List VS) (l' : List (Nat × AObj)), sOut n B l = some l' →
    (∀ q ∈ l', ∃ g ∈ l, ∃ t cs, g.own = some t ∧ lFind B.r g.id = some q.1 ∧ sVs n B g.cf = some cs ∧ q.2 = .cells cs t.1 true t.2) ∧ ∀ g ∈ l, g.own.isSome = true → ∃ q ∈ l', lFind B.r g.id = some q.1
  | [], l', h => by simp only [sOut, Option.some.injEq] at h; subst h; exact ⟨fun q hq => (by cases hq), fun g hg => (by cases hg)⟩
  | g :: l, l', h => by
    simp only [sOut] at h
    split at h
    · rename_i hown
      obtain ⟨a1, a2⟩ := sOut_ok l l' h
      refine ⟨fun q hq => ?_, fun g' hg' hw => ?_⟩
      · obtain ⟨g', b1, b2⟩ := a1 q hq
        exact ⟨g', List.mem_cons_of_mem _ b1, b2⟩
      · rcases List.mem_cons.1 hg' with rfl | hg'
        · rw [hown] at hw; cases hw
        · exact a2 g' hg' hw
    · rename_i t hown
      split at h
      · rename_i b cs m hb hcs hm
        cases h
        obtain ⟨a1, a2⟩ := sOut_ok l m hm
        refine ⟨fun q hq => ?_, fun g' hg' hw => ?_⟩
        · rcases List.mem_cons.1 hq with rfl | hq
          · exact ⟨g, List.mem_cons_self, t, cs, hown, hb, hcs, rfl⟩
          · obtain ⟨g', b1, b2⟩ := a1 q hq
            exact ⟨g', List.mem_cons_of_mem _ b1, b2⟩
        · rcases List.mem_cons.1 hg' with rfl | hg'
          · exact ⟨_, List.mem_cons_self, hb⟩
          · obtain ⟨q, b1, b2⟩ := a2 g' hg' hw
            exact ⟨q, List.mem_cons_of_mem _ b1, b2⟩
      · cases h
theorem sBs_ok {B : Bd} : ∀ (l l' : List BE), sBs B l = some l' → ∀ c ∈ l, ∃ c' ∈ l', sB B c = some c'
  | [], l', h, c, hc => by cases hc
  | a :: l, l', h, c, hc => by
    simp only [sBs] at h
    split at h
    · rename_i x hx
      split at h
      · rename_i m hm
        cases h
        rcases List.mem_cons.1 hc with rfl | hc
        · exact ⟨x, List.mem_cons_self, hx⟩
        · obtain ⟨c', h1, h2⟩ := sBs_ok l m hm c hc
          exact ⟨c', List.mem_cons_of_mem _ h1, h2⟩
      · cases h
    · cases h
theorem vsUp_ge : ∀ (l : List VS) (n : Nat), vsUp n l = true → ∀ q ∈ l, n ≤ q.id
  | [], n, _, q, hq => by cases hq
  | q :: l, n, h, q', hq => by
    simp only [vsUp] at h
    cases h1 : Nat.ble n q.id with
    | false => rw [h1] at h; cases h
    | true =>
      rw [h1] at h
      rcases List.mem_cons.1 hq with rfl | hq
      · exact ble_t.1 h1
      · have := vsUp_ge l _ h q' hq; have := ble_t.1 h1; omega
theorem vsUp_inj : ∀ (l : List VS) (n : Nat), vsUp n l = true → ∀ q ∈ l, ∀ q' ∈ l, q.id = q'.id → q = q'
  | [], n, _, q, hq, _, _, _ => by cases hq
  | p :: l, n, h, q, hq, q', hq', e => by
    simp only [vsUp] at h
    cases h0 : Nat.ble n p.id with
    | false => rw [h0] at h; cases h
    | true =>
      rw [h0] at h
      rcases List.mem_cons.1 hq with h1 | h1
      · rcases List.mem_cons.1 hq' with h2 | h2
        · rw [h1, h2]
        · have := vsUp_ge l _ h q' h2; rw [h1] at e; omega
      · rcases List.mem_cons.1 hq' with h2 | h2
        · have := vsUp_ge l _ h q h1; rw [h2] at e; omega
        · exact vsUp_inj l _ h q h1 q' h2 e

/-- THE LOOP IS AS IT IS SAID; its rounds may know something else. -/
theorem LSpec.cokG {p pI : Par} (hPP : pI.P = p.P) (hRC : pI.RC = p.RC) {n : Nat} {keep : List Nat} {body : C} {code : Code} (hf : COk pI n keep body code) (L : LSpec) (hk : L.sl.all (fun g => and (memN keep (some g.1)) (idsLt L.nv g.2)) = true) 
    (hkv : L.vs.all (fun g => and (idsLts L.nv g.c) (and (idsLts L.nv g.cf) (and (Nat.ble (g.id + 1) L.nv) (or g.own.isNone (Nat.ble 1000 g.id))))) = true) (hup : vsUp 0 L.vs = true) (hnv : 1000 ≤ L.nv)
    {cx0 : Cx} (CX0 : CxOk pI cx0) {wh0 : Wh} (hw0 : wh0.rd = none) {st : Rho → (Nat → Obj → Prop) → Prop} (hOk : L.OkP pI.ok st cx0 wh0 body) (fix : List Nat)
    (hre : ∀ (ρ ρ' : Rho) (m : Nat → Obj → Prop), p.ok ρ m → ρ'.fi = ρ.fi → ρ'.fb = ρ.fb → (∀ j ∈ fix, ρ'.ov j = ρ.ov j ∧ ρ'.iv j = ρ.iv j) → st ρ' m) : COk p n keep (L.runF fix) (.loop code) := by
  obtain ⟨PP, RC, ok⟩ := p
  obtain ⟨PI, RCI, okI⟩ := pI
  have hPP : PI = PP := hPP
  have hRC : RCI = RC := hRC
  subst hPP hRC
  intro cx CX wh rd E w0 w s a Q Q' hrd S k P
  unfold LSpec.runF at k
  obtain ⟨hkeep, k⟩ : keepsL L fix s = true ∧ (L.run cx wh s).Holds E.ρ Q := by
    cases hkp : keepsL L fix s with
    | false => rw [hkp] at k; exact k.elim
    | true => rw [hkp] at k; exact ⟨rfl, k⟩
  unfold LSpec.run at k
  split at k
  · exact k.elim
  · rename_i hwr
    have hrd0 : rd = none := by
      rw [hwr] at hrd
      cases rd with
      | none => rfl
      | some l => exact hrd.elim
    split at k
    · exact k.elim
    · rename_i hdf
      split at k
      · exact k.elim
      · rename_i B0 h0
        split at k
        · exact k.elim
        · rename_i B hB
          cases hinj : injR B.r with
          | false => rw [hinj] at k; exact k.elim
          | true =>
          rw [hinj, cond_true] at k
          split at k
          · exact k.elim
          · rename_i cs hcs
            split at k
            · exact k.elim
            · rename_i out hfin
              split at k
              · exact k.elim
              · rename_i outs hout
                obtain ⟨hdom, hret⟩ := brAll_holds k
                rw [T.holds_bind] at hret
                obtain ⟨a1, a2, a3⟩ := bdSl_ok _ _ _ h0
                obtain ⟨c1, c2, c3⟩ := bdVw_ok _ _ _ hB
                obtain ⟨hi1, hi2⟩ := injR_ok hinj
                obtain ⟨o1, o2⟩ := sOut_ok _ _ hout
                have G0 : GoodD E B0 := a2 E (fun g _ v hv => by
                  obtain ⟨_, u, hu, _⟩ := S.tm.tree.at_ _ _ hv
                  exact ⟨u, hu⟩) (fun j v h => by cases h)
                have G : GoodD E B := c2 S.hp G0
                have R : RelD L.nv E (envD L.nv E B) B := envD_rel S.hp.glob G
                have hdom' : ∀ c ∈ L.dom, c.den (rhoD E B) = true := fun c hc => by
                  obtain ⟨c', h1, h2⟩ := sBs_ok _ _ hcs c hc
                  have := sB_ok R rfl rfl c c' h2
                  rw [hdom c' h1] at this
                  exact this.symm
                have hkB : keepsB B fix = true := by
                  unfold keepsL at hkeep
                  rw [h0] at hkeep
                  simp only [hB] at hkeep
                  exact hkeep
                obtain ⟨m0, hm0, hm1⟩ := S.hp.ok
                obtain ⟨M, At, ρ0, hAt, hA0, hstart, hvstart, hround⟩ := hOk (rhoD E B) m0 (hre E.ρ _ m0 hm0 rfl rfl (keepsB_ok G fix hkB)) hdom'
                have hk' : ∀ g ∈ L.sl, memN keep (some g.1) = true ∧ idsLt L.nv g.2 = true := fun g hg => by
                  have := List.all_eq_true.1 hk g hg
                  simpa only [Bool.and_eq_true] using this
                have hkv' : ∀ g ∈ L.vs, idsLts L.nv g.c = true ∧ idsLts L.nv g.cf = true ∧ g.id < L.nv ∧ (g.own.isSome = true → 1000 ≤ g.id) := fun g hg => by
                  have := List.all_eq_true.1 hkv g hg
                  simp only [Bool.and_eq_true, Bool.or_eq_true] at this
                  refine ⟨this.1, this.2.1, ble_t.1 this.2.2.1, fun hw => ?_⟩
                  rcases this.2.2.2 with h | h
                  · cases hown : g.own with
                    | none => rw [hown] at hw; cases hw
                    | some q => rw [hown] at h; cases h
                  · exact ble_t.1 h
                have hV := c3 R rfl rfl S.hp
                have res1000 : ∀ b c, 1000 ≤ b → (cond (Nat.ble (Nat.succ b) 1000) (some b) (cond (Nat.ble (Nat.succ b) L.nv) (lFind B.r b) none)) = some c → lFind B.r b = some c := fun b c hb hc => by
                  have k1 : Nat.ble (Nat.succ b) 1000 = false := by
                    cases hk : Nat.ble (Nat.succ b) 1000 with
                    | false => rfl
                    | true => have := ble_t.1 hk; omega
                  rw [k1, cond_false] at hc
                  exact (cond_some hc).2
                have same : ∀ g ∈ L.vs, g.own.isSome = true → ∀ g' ∈ L.vs, ∀ c x y, sigD L.nv E B g.id = some (c, x) → sigD L.nv E B g'.id = some (c, y) → g = g' := by
                  intro g hg hw g' hg' c x y hs hs'
                  obtain ⟨b, o, d1, d2, d3, d4, d5, _⟩ := (hV g hg).at_
                  obtain ⟨b', o', e1, e2, e3, e4, e5, _⟩ := (hV g' hg').at_
                  have d3 : sigD L.nv E B g.id = E.σ b := d3
                  have e3 : sigD L.nv E B g'.id = E.σ b' := e3
                  rw [d3] at hs; rw [e3] at hs'
                  have hbb : b = b' := by
                    rcases e5 with e5 | e5
                    · exact S.hp.inj _ _ _ _ _ _ _ d2 e2 (d4 hw) e5 hs hs'
                    · exact absurd (S.hp.ro _ _ _ _ e2 e5 hs') (S.hp.base _ _ _ _ d2 (d4 hw) hs)
                  subst hbb
                  refine vsUp_inj _ _ hup g hg g' hg' ?_
                  have f1 := res1000 _ _ ((hkv' g hg).2.2.2 hw) d1
                  rcases Nat.lt_or_ge g'.id 1000 with hlt | hge
                  · have k1 : Nat.ble (Nat.succ g'.id) 1000 = true := ble_t.2 hlt
                    rw [k1, cond_true] at e1
                    have := Option.some.inj e1
                    have := (hi1 _ _ f1).1
                    omega
                  · exact hi2 _ _ _ f1 (res1000 _ _ hge e1)
                have K : TOk L.T keep (sigD L.nv E B) := ⟨fun g hg => (hk' g hg).1, fun g hg => (hk' g hg).2, fun g hg => by
                  obtain ⟨g0, hg0, rfl⟩ := List.mem_map.1 hg
                  exact ⟨(hkv' g0 hg0).1, (hkv' g0 hg0).2.2.1⟩, fun b hb => by
                  have hb' : L.nv ≤ b := hb
                  simp only [sigD]; rw [if_neg (by omega), if_neg (by omega)], fun b hb => by simp only [sigD, if_pos hb], fun g hg hw g' hg' c x y hs hs' => by
                  obtain ⟨g0, hg0, rfl⟩ := List.mem_map.1 hg
                  obtain ⟨g1, hg1, rfl⟩ := List.mem_map.1 hg'
                  rw [same g0 hg0 hw g1 hg1 c x y hs hs']⟩
                have I0 : LInv ⟨PI, RCI, okI⟩ L.T n (sigD L.nv E B) (kapD L.nv E B) ρ0 w a w := by
                  refine ⟨S.tm.size, ?_, fun g hg => ?_, fun g hg => ?_, Kept.refl _ _⟩
                  · have := S.df
                    rw [hdf] at this
                    cases hd : a.defers with
                    | nil => rfl
                    | cons d ds => rw [hd] at this; exact this.elim
                  · obtain ⟨v, hv, hs⟩ := hstart g hg
                    obtain ⟨v', hv', he⟩ := a3 _ hv
                    obtain ⟨_, u, hu, ht⟩ := S.tm.tree.at_ _ _ hv'
                    refine ⟨u, ?_, ht⟩
                    have := he E (envD L.nv E B) u (R.sub c1) hu
                    rw [← this]
                    exact (hs (sigD L.nv E B) (kapD L.nv E B) L.nv L.nv (fun _ => #[]) (fun _ => #[])).symm
                  · obtain ⟨g0, hg0, rfl⟩ := List.mem_map.1 hg
                    obtain ⟨b, o, d1, d2, d3, d4, d5, c, x, d6⟩ := (hV g0 hg0).at_
                    have d3 : sigD L.nv E B g0.id = E.σ b := d3
                    refine ⟨?_, c, x, d3.trans d6, S.hp.lt _ _ _ _ d2 d6⟩
                    have hobj := (hV g0 hg0).obj
                    have hu0 := (hvstart g0 hg0).2
                    have hs := (hvstart g0 hg0).1 (sigD L.nv E B) (kapD L.nv E B) L.nv L.nv (fun _ => #[]) (fun _ => #[])
                    have hs : concL (envD L.nv E B) g0.c0 = concL (L.T.env (sigD L.nv E B) (kapD L.nv E B) ρ0) g0.c := hs
                    unfold VB.obj at hobj ⊢
                    simp only at hobj ⊢
                    cases hown : g0.own with
                    | none =>
                      rw [hown] at hobj
                      simp only at hobj ⊢
                      cases hgu : g0.u with
                      | none =>
                        rw [hgu] at hobj
                        obtain ⟨c', base, vs, cells, el, fz, k1, k2, k3, k4, k5⟩ := hobj
                        exact ⟨c', base, vs, cells, el, fz, k1, hs.symm.trans k2, k3, k4, k5⟩
                      | some q =>
                        rw [hgu] at hobj
                        obtain ⟨c', base, cells, el, fz, k1, k3, k4⟩ := hobj
                        obtain ⟨u1, u2⟩ := hu0 q hgu
                        refine ⟨c', base, cells, el, fz, k1, k3, fun n off k hn hk => ?_⟩
                        have hn : (n : Int) < ρ0.iv q.1 := hn
                        rw [← u1] at hn
                        rw [k4 n off k hn hk]
                        exact congrArg some (u2 n off k)
                    | some q =>
                      rw [hown] at hobj
                      obtain ⟨c', base, vs, cells, el, fz, k1, k2, k3, k4, k5⟩ := hobj
                      exact ⟨c', base, vs, cells, el, fz, k1, hs.symm.trans k2, k3, k4, k5⟩
                have hm2 : ∀ c o, m0 c o → L.T.keeps (sigD L.nv E B) w c ∧ w.heap[c]? = some o := fun c o e => by
                  have hh := hm1 c o e
                  refine ⟨⟨Base.Keeps.lt S.hp.below hh.1, fun g hg hw x hx' => ?_⟩, Base.Keeps.has S.hp.below hh⟩
                  obtain ⟨g0, hg0, rfl⟩ := List.mem_map.1 hg
                  obtain ⟨b, o', d1, d2, d3, d4, d5, _⟩ := (hV g0 hg0).at_
                  have d3 : sigD L.nv E B g0.id = E.σ b := d3
                  have hx2 : sigD L.nv E B g0.id = some (c, x) := hx'
                  exact S.hp.base _ _ _ _ d2 (d4 hw) (d3.symm.trans hx2) hh.1
                refine wpIn_loop_rounds (M + 1) (loop_rounds hf K CX0 (wh := wh0) hw0 hrd0 (At := At) hAt hm2 (Out := fun ρ' x s' => s'.df = [] ∧ (∃ o, L.out.end_ (rhoD E B) = some o ∧ x = o.1 ∧ ∀ g ∈ o.2, idsLt L.nv g.2 = true ∧ ∃ v, s'.tm.tree.get g.1 = some v ∧ SameV ρ' v (rhoD E B) g.2) ∧
                  ∀ g ∈ L.vs, ∀ q, g.own = some q → ∃ cs, s'.h.get g.id = some (.cells cs q.1 true q.2) ∧ SameL ρ' cs (rhoD E B) g.cf) hround ?_ M 0 ρ0 a w (by omega) hA0 I0)
                rintro i ρ' x s' E' b' a' w' hA hx ⟨hsdf, ⟨o, ho, hxo, hsl⟩, hvw⟩ hle S' hb _
                obtain ⟨fin, hfin2, hQ⟩ := sO_end R rfl rfl _ _ hfin hret o ho
                subst hxo
                refine P o.1 _ E w' a' hQ (Env.le.refl E) ⟨⟨S'.tm.size, fun t A h => (by cases h), ⟨fun t A hA' => ?_⟩⟩, ?_, ?_⟩
                · have hm := treeOf_get _ _ _ hA'
                  obtain ⟨g, hg, e1, e2⟩ := sSl_ok _ _ hfin2 _ hm
                  obtain ⟨hid, v, hv, hs⟩ := hsl g hg
                  simp only at e1 e2
                  rw [e1] at hv
                  obtain ⟨hkp, u, hu, ht⟩ := S'.tm.tree.at_ _ _ hv
                  refine ⟨hkp, u, ?_, ht⟩
                  rw [sV_ok R rfl rfl g.2 A e2]
                  exact conc_env (T := L.T) hle hid hs hu
                · have := S'.df
                  rw [hsdf] at this
                  cases hd : a'.defers with
                  | nil => trivial
                  | cons d ds => rw [hd] at this; exact this.elim
                · refine S.hp.putAll ⟨hb.os, hb.tape, hb.output, hb.size, fun c hc => hb.block c ⟨hc.1, fun g hg hw x hx' => ?_⟩⟩ fun q hq => ?_
                  · obtain ⟨g0, hg0, rfl⟩ := List.mem_map.1 hg
                    obtain ⟨b, o, d1, d2, d3, d4, d5, _⟩ := (hV g0 hg0).at_
                    have d3 : sigD L.nv E B g0.id = E.σ b := d3
                    obtain ⟨q, hq, hfo⟩ := o2 g0 hg0 hw
                    have f1 := res1000 _ _ ((hkv' g0 hg0).2.2.2 hw) d1
                    rw [hfo] at f1
                    have f2 := Option.some.inj f1
                    have hx2 : sigD L.nv E B g0.id = some (c, x) := hx'
                    exact hc.2 q hq x (by rw [f2, ← d3]; exact hx2)
                  · obtain ⟨g, hg, t, cs', w1, w2, w3, w4⟩ := o1 q hq
                    obtain ⟨b, o, d1, d2, d3, d4, d5, cc, xx, d6⟩ := (hV g hg).at_
                    have d3 : sigD L.nv E B g.id = E.σ b := d3
                    have f1 := res1000 _ _ ((hkv' g hg).2.2.2 (by rw [w1]; rfl)) d1
                    rw [w2] at f1
                    have f2 := Option.some.inj f1
                    refine ⟨by rw [w4]; rfl, ?_, o, by rw [f2]; exact d2, d4 (by rw [w1]; rfl)⟩
                    rw [w4, f2]
                    obtain ⟨cs1, h1, h2⟩ := hvw g hg t w1
                    obtain ⟨c', base, vs, cells, el, fz, k1, k2, k3, k4, k5⟩ := S'.hp.obj _ _ h1
                    have h6 := hle.σ _ _ (d3.trans d6)
                    rw [k1] at h6; cases h6
                    have k7 := concL_env (T := L.T) hle (hkv' g hg).2.1 h2 k2
                    have k8 : concL E cs' = some vs := by rw [sVs_ok R rfl rfl g.cf cs' w3]; exact k7
                    refine ⟨cc, xx, vs, cells, el, fz, d6, k8, k3, k4, fun h => ?_⟩
                    have hκ : E'.κ g.id = kapD L.nv E B g.id := hle.κ _ _ (d3.trans d6)
                    have hκ2 : kapD L.nv E B g.id = E.κ b := (R.at_ g.id b ((hkv' g hg).2.2.2 (by rw [w1]; rfl)) (hkv' g hg).2.2.1 (by rw [w2, f2])).2
                    obtain ⟨m1, m2, m3, m4⟩ := k5 h
                    exact ⟨m1, m2, m3, fun h => by have := m4 h; rw [hκ, hκ2] at this; exact this⟩


theorem LSpec.cokF {p : Par} {n : Nat} {keep : List Nat} {body : C} {code : Code} (hf : COk p n keep body code) (L : LSpec) (hk : L.sl.all (fun g => and (memN keep (some g.1)) (idsLt L.nv g.2)) = true) 
    (hkv : L.vs.all (fun g => and (idsLts L.nv g.c) (and (idsLts L.nv g.cf) (and (Nat.ble (g.id + 1) L.nv) (or g.own.isNone (Nat.ble 1000 g.id))))) = true) (hup : vsUp 0 L.vs = true) (hnv : 1000 ≤ L.nv)
    {cx0 : Cx} (CX0 : CxOk p cx0) {wh0 : Wh} (hw0 : wh0.rd = none) {st : Rho → (Nat → Obj → Prop) → Prop} (hOk : L.OkP p.ok st cx0 wh0 body) (fix : List Nat)
    (hre : ∀ (ρ ρ' : Rho) (m : Nat → Obj → Prop), p.ok ρ m → ρ'.fi = ρ.fi → ρ'.fb = ρ.fb → (∀ j ∈ fix, ρ'.ov j = ρ.ov j ∧ ρ'.iv j = ρ.iv j) → st ρ' m) : COk p n keep (L.runF fix) (.loop code) :=
  LSpec.cokG rfl rfl hf L hk hkv hup hnv CX0 hw0 hOk fix hre

theorem LSpec.cok {p : Par} {n : Nat} {keep : List Nat} {body : C} {code : Code} (hf : COk p n keep body code) (L : LSpec) (hk : L.sl.all (fun g => and (memN keep (some g.1)) (idsLt L.nv g.2)) = true)
    (hkv : L.vs.all (fun g => and (idsLts L.nv g.c) (and (idsLts L.nv g.cf) (and (Nat.ble (g.id + 1) L.nv) (or g.own.isNone (Nat.ble 1000 g.id))))) = true) (hup : vsUp 0 L.vs = true) (hnv : 1000 ≤ L.nv)
    {cx0 : Cx} (CX0 : CxOk p cx0) {wh0 : Wh} (hw0 : wh0.rd = none) (hOk : L.Ok cx0 wh0 body) (hAll : ∀ ρ m, p.ok ρ m) : COk p n keep L.run (.loop code) := by
  rw [← L.runF_nil]
  exact LSpec.cokF hf L hk hkv hup hnv CX0 hw0 (hOk.toP hAll) [] (fun _ _ _ _ _ _ _ => trivial)

end Go.Sx
/-! TREES UNDER CONDITIONS: which way a tree goes, where some conditions are known; one tree against another one. -/
namespace Go.Sx
open Go.RowKit

/-- a condition that is known: 'a ≤ b', 'a = b' or any other one, and whether it holds -/
structure Asm where
  c : BE
  b : Bool

/-- comparisons in one form: 'a ≤ b', with whether it holds -/
noncomputable def canon (c : BE) (b : Bool) : Asm :=
  match c with
  | .cmp .leq x y => ⟨.cmp .leq x y, b⟩
  | .cmp .geq x y => ⟨.cmp .leq y x, b⟩
  | .cmp .lss x y => ⟨.cmp .leq y x, Bool.not b⟩
  | .cmp .gtr x y => ⟨.cmp .leq x y, Bool.not b⟩
  | .cmp .neq x y => ⟨.cmp .eql x y, Bool.not b⟩
  | c => ⟨c, b⟩

theorem canon_den {ρ : Rho} (c : BE) (b : Bool) : (canon c b).c.den ρ = (canon c b).b ↔ c.den ρ = b := by
  unfold canon
  split
  · exact Iff.rfl
  · simp only [BE.den, cmpDen]
  · rename_i x y
    simp only [BE.den, cmpDen]
    by_cases h : IE.den ρ x < IE.den ρ y
    · have h2 : ¬ IE.den ρ y ≤ IE.den ρ x := by omega
      simp only [h, h2, decide_true, decide_false]; cases b <;> simp
    · have h2 : IE.den ρ y ≤ IE.den ρ x := by omega
      simp only [h, h2, decide_true, decide_false]; cases b <;> simp
  · rename_i x y
    simp only [BE.den, cmpDen]
    by_cases h : IE.den ρ x ≤ IE.den ρ y
    · have h2 : ¬ IE.den ρ x > IE.den ρ y := by omega
      simp only [h, h2, decide_true, decide_false]; cases b <;> simp
    · have h2 : IE.den ρ x > IE.den ρ y := by omega
      simp only [h, h2, decide_true, decide_false]; cases b <;> simp
  · rename_i x y
    simp only [BE.den, cmpDen]
    cases h : (IE.den ρ x == IE.den ρ y) with
    | true => simp only [bne, h]; cases b <;> simp
    | false => simp only [bne, h]; cases b <;> simp
  · exact Iff.rfl

noncomputable def findA (c : BE) (l : List Asm) : Option Bool := @List.rec Asm (fun _ => Option Bool) none (fun a _ ih => cond (eqBE a.c c) (some a.b) ih) l
/-- is it known whether a condition holds? -/
noncomputable def decB (l : List Asm) : BE → Option Bool
  | .lit b => some b
  | .not a => (match decB l a with
    | some b => some (Bool.not b)
    | none => none)
  | .and a b => (match decB l a with
    | some false => some false
    | some true => decB l b
    | none => (match decB l b with
      | some false => some false
      | _ => none))
  | .cmp o x y => (match findA (canon (.cmp o x y) true).c l with
    | some b => some (cond (canon (.cmp o x y) true).b b (Bool.not b))
    | none => none)
  | c => findA c l

def AsmOk (ρ : Rho) (l : List Asm) : Prop := ∀ a ∈ l, a.c.den ρ = a.b

theorem findA_ok {ρ : Rho} {c : BE} : ∀ {l : List Asm} {b : Bool}, AsmOk ρ l → findA c l = some b → c.den ρ = b
  | [], b, _, h => by cases h
  | a :: l, b, H, h => by
    have h : cond (eqBE a.c c) (some a.b) (findA c l) = some b := h
    cases he : eqBE a.c c with
    | true =>
      rw [he] at h; cases h
      rw [← eqBE_eq _ _ he]; exact H a List.mem_cons_self
    | false => rw [he] at h; exact findA_ok (fun x hx => H x (List.mem_cons_of_mem _ hx)) h

theorem decB_ok {ρ : Rho} {l : List Asm} (H : AsmOk ρ l) : ∀ (c : BE) (b : Bool), decB l c = some b → c.den ρ = b
  | .lit x, b, h => by simp only [decB, Option.some.injEq] at h; exact h
  | .var i, b, h => by simp only [decB] at h; exact findA_ok H h
  | .app f x y z, b, h => by simp only [decB] at h; exact findA_ok H h
  | .iff x y, b, h => by simp only [decB] at h; exact findA_ok H h
  | .not a, b, h => by
    simp only [decB] at h
    split at h
    · rename_i x hx; cases h; simp only [BE.den, decB_ok H a x hx]
    · cases h
  | .and a c, b, h => by
    simp only [decB] at h
    split at h
    · rename_i hx; cases h; simp only [BE.den, decB_ok H a false hx, Bool.false_and]
    · rename_i hx; simp only [BE.den, decB_ok H a true hx, decB_ok H c b h, Bool.true_and]
    · split at h
      · rename_i hy; cases h; simp only [BE.den, decB_ok H c false hy, Bool.and_false]
      · cases h
  | .cmp o x y, b, h => by
    simp only [decB] at h
    split at h
    · rename_i z hz
      cases h
      have h1 := findA_ok H hz
      have h2 := canon_den (ρ := ρ) (.cmp o x y) true
      have e : (canon (.cmp o x y) true).c = (canon (.cmp o x y) false).c ∧ (canon (.cmp o x y) false).b = Bool.not (canon (.cmp o x y) true).b := by
        cases o <;> exact ⟨rfl, rfl⟩
      cases hb : (canon (.cmp o x y) true).b with
      | true =>
        rw [cond_true]
        cases z with
        | true => exact h2.1 (by rw [hb]; exact h1)
        | false =>
          refine (canon_den (.cmp o x y) false).1 ?_
          rw [← e.1, e.2, hb]; exact h1
      | false =>
        rw [cond_false]
        cases z with
        | false => exact h2.1 (by rw [hb]; exact h1)
        | true =>
          refine (canon_den (.cmp o x y) false).1 ?_
          rw [← e.1, e.2, hb]; exact h1
    · cases h

/-- a condition, taken apart, that is known from now on -/
noncomputable def addB (b : Bool) : BE → List Asm → List Asm
  | .lit _, l => l
  | .not a, l => addB (Bool.not b) a l
  | .and x y, l => cond b (addB b x (addB b y l)) (⟨.and x y, b⟩ :: l)
  | c, l => canon c b :: l

theorem addB_ok {ρ : Rho} : ∀ (c : BE) (b : Bool) (l : List Asm), AsmOk ρ l → c.den ρ = b → AsmOk ρ (addB b c l)
  | .lit _, b, l, H, _ => H
  | .not a, b, l, H, h => by
    simp only [addB]
    refine addB_ok a _ l H ?_
    simp only [BE.den] at h
    rw [← h, Bool.not_not]
  | .and x y, b, l, H, h => by
    simp only [addB]
    cases b with
    | true =>
      simp only [BE.den, Bool.and_eq_true] at h
      exact addB_ok x true _ (addB_ok y true l H h.2) h.1
    | false =>
      intro a ha
      rcases List.mem_cons.1 ha with rfl | ha
      · exact h
      · exact H a ha
  | .var i, b, l, H, h => by
    intro a ha
    rcases List.mem_cons.1 ha with rfl | ha
    · exact (canon_den (.var i) b).2 h
    · exact H a ha
  | .app f x y z, b, l, H, h => by
    intro a ha
    rcases List.mem_cons.1 ha with rfl | ha
    · exact (canon_den (.app f x y z) b).2 h
    · exact H a ha
  | .iff x y, b, l, H, h => by
    intro a ha
    rcases List.mem_cons.1 ha with rfl | ha
    · exact (canon_den (.iff x y) b).2 h
    · exact H a ha
  | .cmp o x y, b, l, H, h => by
    intro a ha
    rcases List.mem_cons.1 ha with rfl | ha
    · exact (canon_den (.cmp o x y) b).2 h
    · exact H a ha

/-- does each way of a tree that can be end so? -/
noncomputable def allWays {α : Type} (Q : List Asm → α → Bool) (t : T α) : List Asm → Bool :=
  @T.rec α (fun _ => List Asm → Bool) (fun a l => Q l a)
    (fun c _ _ ih1 ih2 l => match decB l c with
      | some b => cond b (ih1 l) (ih2 l)
      | none => and (ih1 (addB true c l)) (ih2 (addB false c l)))
    (fun _ _ => false) t

theorem allWays_ok {α : Type} {ρ : Rho} {Q : List Asm → α → Bool} {P : α → Prop} (hQ : ∀ l a, AsmOk ρ l → Q l a = true → P a) : ∀ (t : T α) (l : List Asm), AsmOk ρ l → allWays Q t l = true → t.Holds ρ P
  | .ret a, l, H, h => hQ l a H h
  | .fail w, l, H, h => by cases h
  | .br c x y, l, H, h => by
    have h : (match decB l c with
      | some b => cond b (allWays Q x l) (allWays Q y l)
      | none => and (allWays Q x (addB true c l)) (allWays Q y (addB false c l))) = true := h
    simp only [T.Holds]
    split at h
    · rename_i b hb
      have hc := decB_ok H c b hb
      cases b with
      | true => rw [hc, if_pos rfl]; exact allWays_ok hQ x l H h
      | false => rw [hc, if_neg (by simp)]; exact allWays_ok hQ y l H h
    · simp only [Bool.and_eq_true] at h
      cases hc : c.den ρ with
      | true => rw [if_pos rfl]; exact allWays_ok hQ x _ (addB_ok c true l H hc) h.1
      | false => rw [if_neg (by simp)]; exact allWays_ok hQ y _ (addB_ok c false l H hc) h.2

/-- where a tree ends under conditions; 'dead': it ends nowhere, whatever holds -/
inductive Lf (α : Type) where
  | at_ (a : α)
  | dead
  | open_
noncomputable def leafA {α : Type} (t : T α) (l : List Asm) : Lf α :=
  @T.rec α (fun _ => Lf α) (fun a => .at_ a)
    (fun c _ _ x y => match decB l c with
      | some b => cond b x y
      | none => .open_)
    (fun _ => .dead) t

theorem leafA_at {α : Type} {ρ : Rho} {l : List Asm} (H : AsmOk ρ l) {P : α → Prop} : ∀ (t : T α) (a : α), leafA t l = .at_ a → t.Holds ρ P → P a
  | .ret b, a, h, k => by cases h; exact k
  | .fail w, a, h, k => k.elim
  | .br c x y, a, h, k => by
    have h : (match decB l c with
      | some b => cond b (leafA x l) (leafA y l)
      | none => .open_) = .at_ a := h
    split at h
    · rename_i b hb
      have hc := decB_ok H c b hb
      simp only [T.Holds, hc] at k
      cases b with
      | true => rw [if_pos rfl] at k; exact leafA_at H x a h k
      | false => rw [if_neg (by simp)] at k; exact leafA_at H y a h k
    · cases h
theorem leafA_dead {α : Type} {ρ : Rho} {l : List Asm} (H : AsmOk ρ l) {P : α → Prop} : ∀ (t : T α), leafA t l = .dead → t.Holds ρ P → False
  | .ret b, h, k => by cases h
  | .fail w, h, k => k
  | .br c x y, h, k => by
    have h : (match decB l c with
      | some b => cond b (leafA x l) (leafA y l)
      | none => .open_) = .dead := h
    split at h
    · rename_i b hb
      have hc := decB_ok H c b hb
      simp only [T.Holds, hc] at k
      cases b with
      | true => rw [if_pos rfl] at k; exact leafA_dead H x h k
      | false => rw [if_neg (by simp)] at k; exact leafA_dead H y h k
    · cases h

/-- ONE TREE SERVES FOR ANOTHER: wherever the run's tree 't' ends, the said one 'u' ends alike, or nowhere. -/
noncomputable def serves {α : Type} (eq : α → α → Bool) (u : T α) (t : T α) : List Asm → Bool :=
  @T.rec α (fun _ => List Asm → Bool)
    (fun a l => match leafA u l with
      | .at_ b => eq a b
      | .dead => true
      | .open_ => false)
    (fun c _ _ ih1 ih2 l => match leafA u l with
      | .dead => true
      | _ => (match decB l c with
        | some b => cond b (ih1 l) (ih2 l)
        | none => and (ih1 (addB true c l)) (ih2 (addB false c l))))
    (fun _ l => match leafA u l with
      | .dead => true
      | _ => false) t

theorem serves_ok {α : Type} {ρ : Rho} {eq : α → α → Bool} {P : α → Prop} (heq : ∀ a b, eq a b = true → a = b) {u : T α} (hu : u.Holds ρ P) : ∀ (t : T α) (l : List Asm), AsmOk ρ l → serves eq u t l = true → t.Holds ρ P
  | .ret a, l, H, h => by
    have h : (match leafA u l with
      | .at_ b => eq a b
      | .dead => true
      | .open_ => false) = true := h
    split at h
    · rename_i b hb
      have := leafA_at H u b hb hu
      rw [← heq a b h] at this; exact this
    · rename_i hd; exact (leafA_dead H u hd hu).elim
    · cases h
  | .fail w, l, H, h => by
    have h : (match leafA u l with
      | .dead => true
      | _ => false) = true := h
    split at h
    · rename_i hd; exact (leafA_dead H u hd hu).elim
    · cases h
  | .br c x y, l, H, h => by
    have h : (match leafA u l with
      | .dead => true
      | _ => (match decB l c with
        | some b => cond b (serves eq u x l) (serves eq u y l)
        | none => and (serves eq u x (addB true c l)) (serves eq u y (addB false c l)))) = true := h
    split at h
    · rename_i hd; exact (leafA_dead H u hd hu).elim
    · simp only [T.Holds]
      split at h
      · rename_i b hb
        have hc := decB_ok H c b hb
        cases b with
        | true => rw [hc, if_pos rfl]; exact serves_ok heq hu x l H h
        | false => rw [hc, if_neg (by simp)]; exact serves_ok heq hu y l H h
      · simp only [Bool.and_eq_true] at h
        cases hc : c.den ρ with
        | true => rw [if_pos rfl]; exact serves_ok heq hu x _ (addB_ok c true l H hc) h.1
        | false => rw [if_neg (by simp)]; exact serves_ok heq hu y _ (addB_ok c false l H hc) h.2

theorem T.holds_weak {α : Type} {ρ : Rho} {P Q : α → Prop} : ∀ {t : T α}, t.Holds ρ P → (∀ a, P a → Q a) → t.Holds ρ Q
  | .ret a, h, k => k a h
  | .fail w, h, _ => h.elim
  | .br c x y, h, k => by
    simp only [T.Holds] at h ⊢
    split at h
    · rename_i hc; rw [if_pos hc]; exact T.holds_weak h k
    · rename_i hc; rw [if_neg hc]; exact T.holds_weak h k

theorem serves_ok2 {α : Type} {ρ : Rho} {eq : α → α → Bool} {P R : α → Prop} (heq : ∀ a b, eq a b = true → a = b ∧ R a) {u : T α} (hu : u.Holds ρ P) : ∀ (t : T α) (l : List Asm), AsmOk ρ l → serves eq u t l = true → t.Holds ρ fun a => R a ∧ P a
  | .ret a, l, H, h => by
    have h : (match leafA u l with
      | .at_ b => eq a b
      | .dead => true
      | .open_ => false) = true := h
    split at h
    · rename_i b hb
      have := leafA_at H u b hb hu
      obtain ⟨h1, h2⟩ := heq a b h
      exact ⟨h2, h1 ▸ this⟩
    · rename_i hd; exact (leafA_dead H u hd hu).elim
    · cases h
  | .fail w, l, H, h => by
    have h : (match leafA u l with
      | .dead => true
      | _ => false) = true := h
    split at h
    · rename_i hd; exact (leafA_dead H u hd hu).elim
    · cases h
  | .br c x y, l, H, h => by
    have h : (match leafA u l with
      | .dead => true
      | _ => (match decB l c with
        | some b => cond b (serves eq u x l) (serves eq u y l)
        | none => and (serves eq u x (addB true c l)) (serves eq u y (addB false c l)))) = true := h
    split at h
    · rename_i hd; exact (leafA_dead H u hd hu).elim
    · simp only [T.Holds]
      split at h
      · rename_i b hb
        have hc := decB_ok H c b hb
        cases b with
        | true => rw [hc, if_pos rfl]; exact serves_ok2 heq hu x l H h
        | false => rw [hc, if_neg (by simp)]; exact serves_ok2 heq hu y l H h
      · simp only [Bool.and_eq_true] at h
        cases hc : c.den ρ with
        | true => rw [if_pos rfl]; exact serves_ok2 heq hu x _ (addB_ok c true l H hc) h.1
        | false => rw [if_neg (by simp)]; exact serves_ok2 heq hu y _ (addB_ok c false l H hc) h.2

end Go.Sx
/-! CALLS, AS THEY ARE SAID: what a call leads to, told by variables, held against its run. -/
namespace Go.Sx
open Go.RowKit

/-- A CALL, AS IT IS SAID: what it is called with, the blocks that it reads, on what terms, and what it hands back. -/
structure CSpec where
  f : Nat
  args : List AV
  view : List (Nat × List AV)
  nv : Nat
  cs : List BE
  u : T AV

noncomputable def addAll : List BE → List Asm → List Asm
  | [], l => l
  | c :: cs, l => addB true c (addAll cs l)
theorem addAll_ok {ρ : Rho} : ∀ (cs : List BE) (l : List Asm), AsmOk ρ l → (∀ c ∈ cs, c.den ρ = true) → AsmOk ρ (addAll cs l)
  | [], _, H, _ => H
  | c :: cs, l, H, h => addB_ok c true _ (addAll_ok cs l H fun d hd => h d (List.mem_cons_of_mem _ hd)) (h c List.mem_cons_self)

noncomputable def sT (n : Nat) (B : Bd) (t : T AV) : Option (T AV) :=
  @T.rec AV (fun _ => Option (T AV)) (fun a => match sV n B a with
    | some x => some (.ret x)
    | none => none)
    (fun c _ _ x y => match sB B c, x, y with
      | some d, some x, some y => some (.br d x y)
      | _, _, _ => none) (fun w => some (.fail w)) t

theorem sT_holds {n : Nat} {E ES : Env} {B : Bd} (R : RelD n E ES B) (hfi : ES.ρ.fi = E.ρ.fi) (hfb : ES.ρ.fb = E.ρ.fb) {P : AV → Prop} : ∀ (t t' : T AV), sT n B t = some t' → t'.Holds E.ρ P → t.Holds ES.ρ fun v => ∃ v', sV n B v = some v' ∧ P v'
  | .ret a, t', h, k => by
    have h : (match sV n B a with
      | some x => some (T.ret x)
      | none => none) = some t' := h
    split at h
    · rename_i x hx; cases h; exact ⟨x, hx, k⟩
    · cases h
  | .fail w, t', h, k => by
    have h : some (T.fail w) = some t' := h
    cases h; exact k.elim
  | .br c x y, t', h, k => by
    have h : (match sB B c, sT n B x, sT n B y with
      | some d, some x, some y => some (T.br d x y)
      | _, _, _ => none) = some t' := h
    split at h
    · rename_i d x' y' hd hx hy
      cases h
      simp only [T.Holds] at k ⊢
      rw [sB_ok R hfi hfb c d hd] at k
      split at k
      · rename_i hc; rw [if_pos hc]; exact sT_holds R hfi hfb x x' hx k
      · rename_i hc; rw [if_neg hc]; exact sT_holds R hfi hfb y y' hy k
    · cases h

noncomputable def CSpec.vs (c : CSpec) : List VS := c.view.map fun g => ⟨g.1, none, g.2, g.2, g.2, none⟩

noncomputable def CSpec.orc (c : CSpec) (args : List AV) (h : Heap) : Option (T (AV × Heap)) :=
  match bdL c.nv c.args args ⟨[], [], [], []⟩ with
  | none => none
  | some B0 => (match bdVw c.nv h c.vs B0 with
    | none => none
    | some B => (match sBs B c.cs, sT c.nv B c.u with
      | some cs, some u => some (brAll (u.bind fun v => .ret (v, h)) cs)
      | _, _ => none))

/-- does the said tree serve for the run's? its values name no block -/
noncomputable def CSpec.chk (c : CSpec) (run : T (AV × Heap)) : Bool :=
  serves (fun a b => and (eqAV a b) (pureAV b)) c.u (run.bind fun r => .ret r.1) (addAll c.cs [])

/-- what holds of whatever numbers is so where some more is known of them -/
theorem CSpec.ok {p0 p : Par} {c : CSpec} {run : T (AV × Heap)} (hc : CallOk p0 c.f c.args (viewHeap c.nv c.view) run) (hchk : c.chk run = true) (hnv : 1000 ≤ c.nv) {args : List AV} {h : Heap} {t : T (AV × Heap)} (ho : c.orc args h = some t) (hP : p0.P = p.P := by rfl) (hfree : ∀ ρ m, p0.ok ρ m := by exact fun _ _ => trivial) : CallOk p c.f args h t := by
  unfold CSpec.orc at ho
  split at ho
  · cases ho
  · rename_i B0 h0
    split at ho
    · cases ho
    · rename_i B hB
      split at ho
      · rename_i cs u hcs hu
        cases ho
        intro vs E w0 w Q K k HH ha P
        obtain ⟨hdom, hret⟩ := brAll_holds k
        rw [T.holds_bind] at hret
        obtain ⟨a1, a2, a3⟩ := bdL_ok _ _ _ _ h0
        obtain ⟨c1, c2, c3⟩ := bdVw_ok _ _ _ hB
        have G0 : GoodD E B0 := a2 E vs ha (fun j v h => by cases h)
        have G : GoodD E B := c2 HH G0
        have R : RelD c.nv E (envD c.nv E B) B := envD_rel HH.glob G
        have hargs : concL (envD c.nv E B) c.args = some vs := a3 E (envD c.nv E B) vs (R.sub c1) ha
        have hdom' : ∀ d ∈ c.cs, d.den (rhoD E B) = true := fun d hd => by
          obtain ⟨d', h1, h2⟩ := sBs_ok _ _ hcs d hd
          have := sB_ok R rfl rfl d d' h2
          rw [hdom d' h1] at this
          exact this.symm
        have hV := c3 R rfl rfl HH
        have hview : ∀ g ∈ c.view, ViewIn w (envD c.nv E B) g := fun g hg => by
          have hm : (⟨g.1, none, g.2, g.2, g.2, none⟩ : VS) ∈ c.vs := List.mem_map.2 ⟨g, hg, rfl⟩
          obtain ⟨c', base, vs', cells, el, fz, k1, k2, k3, k4, k5⟩ := (hV _ hm).obj
          exact ⟨c', base, vs', cells, el, fz, k1, k2, k3, k4⟩
        have HS : HeapOk p0 (envD c.nv E B) (viewHeap c.nv c.view) (Base.of w) w := view_ok hview
          (fun b hb => by simp only [envD, sigD]; rw [if_neg (by omega), if_neg (by omega)]) (fun b hb => by simp only [envD, sigD, if_pos hb]) (Nat.le_refl _) (Par.okB_all hfree _ _)
        have hu' := sT_holds R rfl rfl c.u u hu hret
        -- the run, under the conditions
        have hrun : (run.bind fun r => T.ret r.1).Holds (rhoD E B) fun v => pureAV v = true ∧ ∃ v', sV c.nv B v = some v' ∧ (T.ret (v', h)).Holds E.ρ Q := by
          unfold CSpec.chk at hchk
          have key : ∀ (t : T AV) (l : List Asm), AsmOk (rhoD E B) l → serves (fun a b => and (eqAV a b) (pureAV b)) c.u t l = true → t.Holds (rhoD E B) fun v => pureAV v = true ∧ ∃ v', sV c.nv B v = some v' ∧ (T.ret (v', h)).Holds E.ρ Q := by
            intro t l H hs
            have hu2 : c.u.Holds (rhoD E B) (fun v => pureAV v = true → pureAV v = true ∧ ∃ v', sV c.nv B v = some v' ∧ (T.ret (v', h)).Holds E.ρ Q) := T.holds_weak hu' fun v hv hp => ⟨hp, hv⟩
            have : t.Holds (rhoD E B) (fun v => pureAV v = true ∧ (pureAV v = true → pureAV v = true ∧ ∃ v', sV c.nv B v = some v' ∧ (T.ret (v', h)).Holds E.ρ Q)) :=
              serves_ok2 (P := fun v => pureAV v = true → pureAV v = true ∧ ∃ v', sV c.nv B v = some v' ∧ (T.ret (v', h)).Holds E.ρ Q) (R := fun v => pureAV v = true) (fun a b hab => by
                simp only [Bool.and_eq_true] at hab
                have := eqAV_eq _ _ hab.1
                exact ⟨this, this ▸ hab.2⟩) hu2 t l H hs
            exact T.holds_weak this fun v hv => hv.2 hv.1
          exact key _ _ (addAll_ok _ _ (fun a ha => by cases ha) hdom') hchk
        rw [T.holds_bind] at hrun
        obtain ⟨r1, r2⟩ := hc vs (envD c.nv E B) (Base.of w) w (fun r => pureAV r.1 = true ∧ ∃ v', sV c.nv B r.1 = some v' ∧ (T.ret (v', h)).Holds E.ρ Q) (fun cv w' => ∃ v v', pureAV v = true ∧ sV c.nv B v = some v' ∧ Q (v', h) ∧ conc (envD c.nv E B) v = some cv ∧ Below w.heap.size w w') hrun HS hargs
          (fun v h' E' w' cv hq hle HH' hv => by
            obtain ⟨hp, v', hs, hQ⟩ := hq
            exact ⟨v, v', hp, hs, hQ, by rw [← hv]; exact (conc_pure hle.ρ v hp).symm, Base.keeps_below HH'.below⟩)
        rw [hP] at r1 r2
        refine ⟨r1, r2.mono ?_⟩
        rintro e w' ⟨cv, rfl, v, v', hp, hs, hQ, hv, hb⟩
        exact ⟨cv, rfl, P v' h E w' cv hQ (Env.le.refl E) (HH.world hb) (by rw [sV_ok R rfl rfl v v' hs]; exact hv)⟩
      · cases ho

end Go.Sx
/-! WHAT A ROUND LEAVES, as values: its kind of end, and some slots and blocks. -/
namespace Go.Sx
open Go.RowKit

noncomputable def tagE (x : Ex) : Nat :=
  match x with
  | .norm => 0
  | .ret => 1
  | .exit id => id + 2
noncomputable def optA (v : Option AV) : AV :=
  match v with
  | some v => .tup [v]
  | none => .tup []
noncomputable def blkA (o : Option AObj) : AV :=
  match o with
  | some (.cells cs el own ext) => .tup [.tup cs, li el, .bool (.lit own), .bool (.lit ext)]
  | _ => .nilptr
noncomputable def dfA (l : List Nat) : AV :=
  match l with
  | [] => .nilslice
  | _ => .nilmap
noncomputable def extr (ids bs : List Nat) (r : Ex × St) : AV :=
  .tup (li (tagE r.1) :: dfA r.2.df :: (lMap (fun i => optA (r.2.tm.tree.get i)) ids ++ lMap (fun b => blkA (r.2.h.get b)) bs))

theorem tagE_inj {x y : Ex} (h : tagE x = tagE y) : x = y := by
  cases x <;> cases y <;> simp only [tagE] at h <;> first | rfl | omega | (congr 1; omega)
theorem optA_some {v : Option AV} {a : AV} (h : optA v = .tup [a]) : v = some a := by
  cases v with
  | none => simp [optA] at h
  | some b => simp only [optA, AV.tup.injEq, List.cons.injEq, and_true] at h; rw [h]
theorem dfA_nil {l : List Nat} (h : dfA l = .nilslice) : l = [] := by
  cases l with
  | nil => rfl
  | cons a l => simp [dfA] at h
theorem blkA_some {o : Option AObj} {cs : List AV} {el : TypeId} {own ext : Bool} (h : blkA o = .tup [.tup cs, li el, .bool (.lit own), .bool (.lit ext)]) : o = some (.cells cs el own ext) := by
  unfold blkA at h
  split at h
  · simp only [AV.tup.injEq, List.cons.injEq, li, AV.int.injEq, IE.lit.injEq, AV.bool.injEq, BE.lit.injEq, and_true, true_and] at h
    obtain ⟨h1, h2, h3, h4⟩ := h
    have h2 := Int.ofNat_inj.1 h2
    rw [h1, h2, h3, h4]
  · cases h

/-- a tree's ends, as values -/
noncomputable def extT (ids bs : List Nat) (t : T (Ex × St)) : T AV := t.bind fun r => .ret (extr ids bs r)
theorem extT_holds {ρ : Rho} {ids bs : List Nat} {t : T (Ex × St)} {P : AV → Prop} (h : (extT ids bs t).Holds ρ P) : t.Holds ρ fun r => P (extr ids bs r) := T.holds_bind.1 h

end Go.Sx
/-! CODE WHOSE LOOPS ARE TAKEN AS SAID. -/
namespace Go.Sx
open Go.RowKit

/-- as 'cCode', but each loop is the given piece -/
noncomputable def cCodeX (lc : C) (ty : Nat → Option TI) (n : Nat) (keep : List Nat) (fid : FuncId) : Code → Option C
  | .skip => some cSkip
  | .label _ => some cSkip
  | .region _ ops draw => cond draw (cDraw ty n keep ops.toList) ((cOpers ty n keep ops.toList ops.toList).map cOps)
  | .seq a b => match cCodeX lc ty n keep fid a, cCodeX lc ty n keep fid b with
    | some a, some b => some (cSeq a b)
    | _, _ => none
  | .cond c a b => match cOpd c, cCodeX lc ty n keep fid a, cCodeX lc ty n keep fid b with
    | some c, some a, some b => some (cCond c a b)
    | _, _, _ => none
  | .block id a => (cCodeX lc ty n keep fid a).map (cBlock id)
  | .loop _ => some lc
  | .scope a => cCodeX lc ty n keep fid a
  | .exit id => some (cExit id)
  | .ret => some cRet
  | _ => none

def LoopsOk (p : Par) (n : Nat) (keep : List Nat) (lc : C) : Code → Prop
  | .seq a b => LoopsOk p n keep lc a ∧ LoopsOk p n keep lc b
  | .cond _ a b => LoopsOk p n keep lc a ∧ LoopsOk p n keep lc b
  | .block _ a => LoopsOk p n keep lc a
  | .loop a => COk p n keep lc (.loop a)
  | .scope a => LoopsOk p n keep lc a
  | _ => True

/-- the loops of a piece of code, but for those inside of others -/
def loopsOf : Code → List Code
  | .seq a b => loopsOf a ++ loopsOf b
  | .cond _ a b => loopsOf a ++ loopsOf b
  | .block _ a => loopsOf a
  | .loop a => [a]
  | .scope a => loopsOf a
  | _ => []

theorem loopsOk_of {p : Par} {n : Nat} {keep : List Nat} {lc : C} : ∀ (c : Code), (∀ a ∈ loopsOf c, COk p n keep lc (.loop a)) → LoopsOk p n keep lc c := by
  intro c
  induction c with
  | seq a b iha ihb => exact fun h => ⟨iha fun x hx => h x (by simp [loopsOf, hx]), ihb fun x hx => h x (by simp [loopsOf, hx])⟩
  | cond c a b iha ihb => exact fun h => ⟨iha fun x hx => h x (by simp [loopsOf, hx]), ihb fun x hx => h x (by simp [loopsOf, hx])⟩
  | block id a ih => exact fun h => ih fun x hx => h x (by simpa [loopsOf] using hx)
  | loop a => exact fun h => h a (by simp [loopsOf])
  | scope a ih => exact fun h => ih fun x hx => h x (by simpa [loopsOf] using hx)
  | _ => exact fun _ => trivial

theorem cCodeX_ok {p : Par} {ty : Nat → Option TI} (TT : TyOk p.P ty) (hm : p.P.follows .mixedOrders = true) {lc : C} {n : Nat} {keep : List Nat} {fid : FuncId} :
    ∀ (c : Code) (f : C), cCodeX lc ty n keep fid c = some f → LoopsOk p n keep lc c → COk p n keep f c := by
  intro c
  induction c with
  | skip => intro f h _; simp only [cCodeX, Option.some.injEq] at h; subst h; exact skip_ok
  | label l => intro f h _; simp only [cCodeX, Option.some.injEq] at h; subst h; exact label_ok
  | region id ops draw =>
    intro f h _
    simp only [cCodeX] at h
    cases draw with
    | true => exact draw_ok TT hm h
    | false =>
      simp only [cond_false, Option.map_eq_some_iff] at h
      obtain ⟨cs, hcs, rfl⟩ := h
      exact cOps_ok TT hcs
  | seq a b iha ihb =>
    intro f h R
    simp only [cCodeX] at h
    split at h
    · rename_i x y hx hy; cases h; exact seq_ok (iha x hx R.1) (ihb y hy R.2)
    · cases h
  | cond c a b iha ihb =>
    intro f h R
    simp only [cCodeX] at h
    split at h
    · rename_i y x z hy hx hz; cases h; exact cond_ok hy (iha x hx R.1) (ihb z hz R.2)
    · cases h
  | block id a ih =>
    intro f h R
    simp only [cCodeX, Option.map_eq_some_iff] at h
    obtain ⟨x, hx, rfl⟩ := h
    exact block_ok (ih x hx R)
  | loop a ih =>
    intro f h R
    simp only [cCodeX, Option.some.injEq] at h
    subst h
    exact R
  | scope a ih => exact fun f h R => scope_ok (ih f h R)
  | exit id => intro f h _; simp only [cCodeX, Option.some.injEq] at h; subst h; exact exit_ok
  | ret => intro f h _; simp only [cCodeX, Option.some.injEq] at h; subst h; exact ret_ok
  | _ => intro f h _; simp only [cCodeX] at h; cases h

/-- as 'callBody_ok', for code that is known to be what runs -/
theorem bodyOf_ok {p : Par} {ty : Nat → Option TI} (TT : TyOk p.P ty) {cx : Cx} (CX : CxOk p cx) {f : FuncId} {fn : Func} {c : Code} {keep : List Nat} {g : C} {rs : List RV} (hfn : p.P.funcs[f]? = some fn) (hb : fn.body = some c)
    (hname : (fn.name == "runtime.NumGoroutine") = false) (hg : COk p fn.ntmps keep g c) (hrs : cRes ty fn.results.toList = some rs) (hkeep : ((List.range (fn.params.size + fn.nfree)).all fun i => memN keep (some i)) = true)
    {args : List AV} {h : Heap} (hlen : args.length ≤ fn.params.size + fn.nfree) :
    CallOk p f args h ((g cx ⟨f, none⟩ ⟨⟨[], tmOf args 0 .nil⟩, [], h⟩).bind (finish ⟨fn.params.size + fn.nfree, g, rs⟩)) := by
  intro vs E w0 w Q K k HH ha P
  refine ⟨run_callFunc hfn hb hname _ w, ?_⟩
  rw [T.holds_bind] at k
  refine callsIn_wide.1 (callsIn_of_wp_marks (F := Fence.wide) (n := 0) hfn hb trivial ?_)
  refine hg cx CX ⟨f, none⟩ none E w0 w ⟨⟨[], tmOf args 0 .nil⟩, [], h⟩ _ _ _ trivial ⟨args_ok ha hkeep hlen, trivial, HH⟩ k ?_
  intro x s' E' w' a' q hle S'
  have fin : (finish ⟨fn.params.size + fn.nfree, g, rs⟩ (x, s')).Holds E'.ρ Q := by rw [hle.ρ]; exact q
  have go : ((undefer s'.df s'.h).bind fun h2 => match resultsA s'.tm h2 rs with
      | some vs => T.ret (one vs, h2)
      | none => .fail 64).Holds E'.ρ Q → LeavesInM Fence.wide 0 p.P fn a'.tmps (fun e w' => ∃ v, e = .returned v ∧ K v w') a'.defers .returning w' := fun kk => by
    rw [T.holds_bind] at kk
    refine undefer_ok s'.df a'.defers s'.h w' S'.df S'.hp kk ?_
    intro h2 w2 q2 HH2
    cases hres : resultsA s'.tm h2 rs with
    | none => rw [hres] at q2; exact q2.elim
    | some vs' =>
      rw [hres] at q2
      obtain ⟨v, hv1, hv2⟩ := run_results TT S'.tm HH2 hrs hres
      exact ⟨v, hv2, v, rfl, P _ _ E' w2 v q2 hle HH2 hv1⟩
  cases x with
  | norm => exact go fin
  | ret => exact go fin
  | exit id => exact fin.elim

end Go.Sx
/-! TREES UNDER CONDITIONS, where a number equals itself. -/
namespace Go.Sx
open Go.RowKit

/-- a comparison that holds of whatever numbers -/
noncomputable def reflA (a : Asm) : Option Bool :=
  match a.c with
  | .cmp .eql x y => cond (eqIE x y) (some a.b) none
  | .cmp .leq x y => cond (eqIE x y) (some a.b) none
  | _ => none
theorem reflA_ok {ρ : Rho} {c : BE} {b : Bool} (h : reflA (canon c true) = some b) : c.den ρ = b := by
  have key : (canon c true).c.den ρ = true := by
    unfold reflA at h
    split at h
    · rename_i x y hc
      have := eqIE_eq _ _ (cond_some h).1
      rw [hc, this]; simp [BE.den, cmpDen]
    · rename_i x y hc
      have := eqIE_eq _ _ (cond_some h).1
      rw [hc, this]; simp [BE.den, cmpDen]
    · cases h
  have hb : (canon c true).b = b := by
    unfold reflA at h
    split at h
    · have := (cond_some h).2; cases this; rfl
    · have := (cond_some h).2; cases this; rfl
    · cases h
  have h2 := canon_den (ρ := ρ) c true
  cases hcb : (canon c true).b with
  | true => rw [hcb] at h2 hb; rw [← hb]; exact h2.1 key
  | false =>
    rw [hcb] at h2 hb
    rw [← hb]
    cases hd : c.den ρ with
    | false => rfl
    | true => have := h2.2 hd; rw [key] at this; cases this

/-- as 'decB', and a number equals itself -/
noncomputable def decR (l : List Asm) : BE → Option Bool
  | .not a => (match decR l a with
    | some b => some (Bool.not b)
    | none => none)
  | .and a b => (match decR l a with
    | some false => some false
    | some true => decR l b
    | none => (match decR l b with
      | some false => some false
      | _ => findA (.and a b) l))
  | c => (match decB l c with
    | some b => some b
    | none => reflA (canon c true))

theorem decR_ok {ρ : Rho} {l : List Asm} (H : AsmOk ρ l) : ∀ (c : BE) (b : Bool), decR l c = some b → c.den ρ = b
  | .not a, b, h => by
    simp only [decR] at h
    split at h
    · rename_i x hx; cases h; simp only [BE.den, decR_ok H a x hx]
    · cases h
  | .and a c, b, h => by
    simp only [decR] at h
    split at h
    · rename_i hx; cases h; simp only [BE.den, decR_ok H a false hx, Bool.false_and]
    · rename_i hx; simp only [BE.den, decR_ok H a true hx, decR_ok H c b h, Bool.true_and]
    · split at h
      · rename_i hy; cases h; simp only [BE.den, decR_ok H c false hy, Bool.and_false]
      · exact findA_ok H h
  | .lit x, b, h => by
    simp only [decR] at h
    split at h
    · rename_i y hy; cases h; exact decB_ok H _ _ hy
    · exact reflA_ok h
  | .var x, b, h => by
    simp only [decR] at h
    split at h
    · rename_i y hy; cases h; exact decB_ok H _ _ hy
    · exact reflA_ok h
  | .cmp o x y, b, h => by
    simp only [decR] at h
    split at h
    · rename_i y hy; cases h; exact decB_ok H _ _ hy
    · exact reflA_ok h
  | .iff x y, b, h => by
    simp only [decR] at h
    split at h
    · rename_i y hy; cases h; exact decB_ok H _ _ hy
    · exact reflA_ok h
  | .app f x y z, b, h => by
    simp only [decR] at h
    split at h
    · rename_i y hy; cases h; exact decB_ok H _ _ hy
    · exact reflA_ok h

/-- as 'allWays'; a way that cannot be is one that some known condition rules out -/
noncomputable def allR {α : Type} (Q : α → Bool) (t : T α) : List Asm → Bool :=
  @T.rec α (fun _ => List Asm → Bool) (fun a _ => Q a)
    (fun c _ _ ih1 ih2 l => match decR l c with
      | some b => cond b (ih1 l) (ih2 l)
      | none => and (ih1 (addB true c l)) (ih2 (addB false c l)))
    (fun _ _ => false) t

theorem allR_ok {α : Type} {ρ : Rho} {Q : α → Bool} {P : α → Prop} (hQ : ∀ a, Q a = true → P a) : ∀ (t : T α) (l : List Asm), AsmOk ρ l → allR Q t l = true → t.Holds ρ P
  | .ret a, l, H, h => hQ a h
  | .fail w, l, H, h => by cases h
  | .br c x y, l, H, h => by
    have h : (match decR l c with
      | some b => cond b (allR Q x l) (allR Q y l)
      | none => and (allR Q x (addB true c l)) (allR Q y (addB false c l))) = true := h
    simp only [T.Holds]
    split at h
    · rename_i b hb
      have hc := decR_ok H c b hb
      cases b with
      | true => rw [hc, if_pos rfl]; exact allR_ok hQ x l H h
      | false => rw [hc, if_neg (by simp)]; exact allR_ok hQ y l H h
    · simp only [Bool.and_eq_true] at h
      cases hc : c.den ρ with
      | true => rw [if_pos rfl]; exact allR_ok hQ x _ (addB_ok c true l H hc) h.1
      | false => rw [if_neg (by simp)]; exact allR_ok hQ y _ (addB_ok c false l H hc) h.2
end Go.Sx
