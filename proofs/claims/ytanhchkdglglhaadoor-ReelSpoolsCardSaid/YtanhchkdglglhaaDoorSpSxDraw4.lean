/- REGIONS WHOSE ORDER OF EVALUATION IS DRAWN: the law. -/
import Derived.Test.YtanhchkdglglhaaDoorSpSxDraw2
/-! ALLOCATIONS THAT NO ORDER BINDS: their numbers reserved; what they lay. -/
namespace Go.Sx
open Go.RowKit

def Env.atN (E : Env) (k : Nat) : Env := ⟨E.ρ, E.σ, E.κ, k, E.rc⟩
theorem Env.atN_le0 (E : Env) (k : Nat) : E.le0 (E.atN k) := ⟨rfl, fun _ _ h => h, fun _ _ _ => rfl, fun _ _ _ => rfl⟩
theorem Env.atN_le (E : Env) {k : Nat} (h : E.n ≤ k) : E.le (E.atN k) := ⟨E.atN_le0 k, h, fun _ _ h => h⟩

theorem HeapOk.resv1 {p : Par} {E : Env} {h : Heap} {w0 : Base} {w : World} (k : HeapOk p E h w0 w) : HeapOk p (E.atN (h.next + 1)) (h.new .resv) w0 w := by
  have hf : E.σ h.next = none := k.fresh _ (Nat.le_refl _)
  have f : ∀ i z, (h.new .resv).get i = some z → (i = h.next ∧ z = .resv) ∨ (i ≠ h.next ∧ h.get i = some z) := fun i z e => by
    rw [Heap.get_new] at e
    by_cases hi : i = h.next
    · rw [if_pos hi] at e; cases e; exact .inl ⟨hi, rfl⟩
    · rw [if_neg hi] at e; exact .inr ⟨hi, e⟩
  have no : ∀ c x, E.σ h.next ≠ some (c, x) := fun c x e => by rw [hf] at e; cases e
  refine ⟨fun b o e => ?_, fun b b' o1 o2 c x y h1 h2 w1 w2 e1 e2 => ?_, fun b o c x e ow s => ?_, fun b o c y hg hr s => ?_, fun b hb => ?_, fun b o c x g e => ?_, k.glob, k.below, Nat.le_refl _, k.ok⟩
  · rcases f b o e with ⟨rfl, rfl⟩ | ⟨_, g⟩
    · exact .inl hf
    · exact (k.obj b o g).mono (E.atN_le0 _) (fun hn => hn) (fun c x _ _ => rfl)
  · rcases f b o1 h1 with ⟨rfl, rfl⟩ | ⟨_, g1⟩
    · exact absurd e1 (no c x)
    · rcases f b' o2 h2 with ⟨rfl, rfl⟩ | ⟨_, g2⟩
      · exact absurd e2 (no c y)
      · exact k.inj b b' o1 o2 c x y g1 g2 w1 w2 e1 e2
  · rcases f b o e with ⟨rfl, rfl⟩ | ⟨_, g⟩
    · exact absurd s (no c x)
    · exact k.base b o c x g ow s
  · rcases f b _ hg with ⟨_, rfl⟩ | ⟨_, g⟩
    · cases hr
    · exact k.ro b o c y g hr s
  · exact k.fresh b (by rw [Heap.next_new] at hb; omega)
  · rcases f b o g with ⟨rfl, rfl⟩ | ⟨_, g⟩
    · exact absurd e (no c x)
    · exact k.lt b o c x g e

theorem resvN_next : ∀ (m : Nat) (h : Heap), (resvN m h).next = h.next + m
  | 0, h => rfl
  | m + 1, h => by rw [resvN, resvN_next m, Heap.next_new]; omega

theorem HeapOk.resvN {p : Par} {w0 : Base} {w : World} : ∀ (m : Nat) (E : Env) (h : Heap), HeapOk p E h w0 w → HeapOk p (E.atN (h.next + m)) (Sx.resvN m h) w0 w
  | 0, E, h, k => by
    refine ⟨fun b o e => (k.obj b o e).mono (E.atN_le0 _) (fun hn => hn) (fun _ _ _ _ => rfl), k.inj, k.base, k.ro, k.fresh, k.lt, k.glob, k.below, Nat.le_refl _, k.ok⟩
  | m + 1, E, h, k => by
    have := HeapOk.resvN m _ _ k.resv1
    rw [Heap.next_new] at this
    rw [show h.next + 1 + m = h.next + (m + 1) by omega] at this
    exact this

/-- a reserved number is turned to what was laid -/
theorem HeapOk.unresv {p : Par} {E : Env} {h : Heap} {w0 : Base} {w : World} (k : HeapOk p E h w0 w) {b c : Nat} {cs : List AV} {vs : List Value} (hg : h.get b = some .resv) (hσ : E.σ b = some (c, 0)) (hv : concL E cs = some vs) (hrc : E.rc b = vs.toArray) :
    HeapOk p E (h.put b (.cells cs 0 true false)) w0 w := by
  rcases k.obj b _ hg with hn | ⟨c', el, h1, h2⟩
  · rw [hσ] at hn; cases hn
  · rw [hσ] at h1; cases h1
    refine k.turn hg rfl hσ rfl ⟨c, 0, vs, vs.toArray, el, (0, 0), hσ, hv, by rw [← hrc]; exact h2, fun i _ => by simp, fun _ => ⟨rfl, rfl, fun _ => by simp, fun e => by cases e⟩⟩ (fun _ _ => rfl) rfl rfl rfl (Nat.le_refl _)

theorem convR_ok {p : Par} {E : Env} {w0 : Base} {w : World} {base : Nat} {pd : List (Nat × List AV)} : ∀ (l : List Nat) (h h1 : Heap), (∀ j ∈ l, ∀ cs, lFind pd j = some cs → ∃ c vs, E.σ (base + j) = some (c, 0) ∧ concL E cs = some vs ∧ E.rc (base + j) = vs.toArray) →
    HeapOk p E h w0 w → conv base pd l h = some h1 → HeapOk p E h1 w0 w
  | [], h, h1, _, k, e => by cases e; exact k
  | j :: l, h, h1, hj, k, e => by
    have htl : ∀ j' ∈ l, ∀ cs, lFind pd j' = some cs → ∃ c vs, E.σ (base + j') = some (c, 0) ∧ concL E cs = some vs ∧ E.rc (base + j') = vs.toArray := fun j' h' => hj j' (List.mem_cons_of_mem _ h')
    unfold conv at e
    split at e
    · exact convR_ok l h h1 htl k e
    · rename_i cs hf
      split at e
      · rename_i o hg
        split at e
        · obtain ⟨c, vs, g1, g2, g3⟩ := hj j List.mem_cons_self cs hf
          exact convR_ok l _ h1 htl (k.unresv hg g1 g2 g3) e
        · exact convR_ok l h h1 htl k e
        · cases e
      · cases e

/-- the block of a reserved number is laid -/
def Env.lay (E : Env) (b c : Nat) (vs : Array Value) : Env := ⟨E.ρ, fun i => if i = b then some (c, 0) else E.σ i, E.κ, E.n, fun i => if i = b then vs else E.rc i⟩
theorem Env.lay_le0 {E : Env} {b c : Nat} {vs : Array Value} (h : E.σ b = none) : E.le0 (E.lay b c vs) := by
  have hne : ∀ i p, E.σ i = some p → i ≠ b := fun i p e => by rintro rfl; rw [h] at e; cases e
  exact ⟨rfl, fun i p e => by simp only [Env.lay, if_neg (hne i p e)]; exact e, fun _ _ _ => rfl, fun i p e => by simp only [Env.lay, if_neg (hne i p e)]⟩
theorem Env.lay_σ (E : Env) (b c : Nat) (vs : Array Value) : (E.lay b c vs).σ b = some (c, 0) := by simp [Env.lay]
theorem Env.lay_rc (E : Env) (b c : Nat) (vs : Array Value) : (E.lay b c vs).rc b = vs := by simp [Env.lay]
theorem Env.lay_ne (E : Env) {b i : Nat} (c : Nat) (vs : Array Value) (h : i ≠ b) : (E.lay b c vs).σ i = E.σ i ∧ (E.lay b c vs).rc i = E.rc i := by simp [Env.lay, h]

theorem HeapOk.lay {p : Par} {E : Env} {h : Heap} {w0 : Base} {w : World} (k : HeapOk p E h w0 w) {b : Nat} (hσ : E.σ b = none) (hb : b < h.next) (hown : ∀ o, h.get b = some o → o = .resv ∨ o = .dead) (vs : Array Value) (el : TypeId) :
    HeapOk p (E.lay b w.heap.size vs) h w0 (w.alloc (.cells vs el)) := by
  have hle := Env.lay_le0 (c := w.heap.size) (vs := vs) hσ
  have hsz : (w.alloc (.cells vs el)).heap = w.heap.push (.cells vs el) := rfl
  have hold : ∀ c, c < w.heap.size → (w.heap.push (Obj.cells vs el))[c]? = w.heap[c]? := fun c hc => by rw [Array.getElem?_push, if_neg (by omega)]
  have h1000 : 1000 ≤ b := by
    rcases Nat.lt_or_ge b 1000 with h | h
    · rw [k.glob b h] at hσ; cases hσ
    · exact h
  have hs : ∀ i q, i ≠ b → (E.lay b w.heap.size vs).σ i = some q → E.σ i = some q := fun i q hi e => by rw [(Env.lay_ne E _ _ hi).1] at e; exact e
  refine ⟨fun i o e => ?_, fun i i' o1 o2 c x y h1 h2 w1 w2 e1 e2 => ?_, fun i o c x e ow s => ?_, fun i o c y hg hr s => ?_, fun i hi => ?_, fun i o c x g e => ?_, fun i hi => ?_, ?_, k.nx, k.ok⟩
  · by_cases hi : i = b
    · subst hi
      rcases hown o e with rfl | rfl
      · exact .inr ⟨w.heap.size, el, Env.lay_σ _ _ _ _, by rw [hsz, Env.lay_rc]; simp⟩
      · trivial
    · exact (k.obj i o e).mono hle (fun hn => by rw [(Env.lay_ne E _ _ hi).1]; exact hn) (fun c x hc _ => by rw [hsz]; exact hold c (k.lt i o c x e hc))
  · by_cases hi : i = b
    · by_cases hi' : i' = b
      · rw [hi, hi']
      · rw [hi, Env.lay_σ] at e1; cases e1
        exact absurd (k.lt i' _ _ _ h2 (hs i' _ hi' e2)) (Nat.lt_irrefl _)
    · by_cases hi' : i' = b
      · rw [hi', Env.lay_σ] at e2; cases e2
        exact absurd (k.lt i _ _ _ h1 (hs i _ hi e1)) (Nat.lt_irrefl _)
      · exact k.inj i i' o1 o2 c x y h1 h2 w1 w2 (hs i _ hi e1) (hs i' _ hi' e2)
  · by_cases hi : i = b
    · rw [hi, Env.lay_σ] at s; cases s; exact k.below.fresh
    · exact k.base i o c x e ow (hs i _ hi s)
  · by_cases hi : i = b
    · subst hi; rcases hown _ hg with h | h <;> subst h <;> cases hr
    · exact k.ro i o c y hg hr (hs i _ hi s)
  · rw [(Env.lay_ne E _ _ (by omega)).1]; exact k.fresh i hi
  · rw [hsz, Array.size_push]
    by_cases hi : i = b
    · rw [hi, Env.lay_σ] at e; cases e; omega
    · have := k.lt i o c x g (hs i _ hi e); omega
  · exact hle.σ _ _ (k.glob i hi)
  · exact k.below.alloc (fun c hc => k.below.lt hc) _

/-! ## What an allocation lays -/
def FK.vals (k : FK) (c : Nat) : Value :=
  match k with
  | .ptr => .pointer (some ⟨c, 0, none⟩)
  | .sl n => .slice (some ⟨c, 0, none⟩) n n
theorem FK.val_conc {k : FK} {E : Env} {b c : Nat} (h : E.σ b = some (c, 0)) : conc E (k.val b) = some (k.vals c) := by
  cases k <;> simp [FK.val, FK.vals, conc, h]

theorem cFl_ok {p : Par} {ty : Nat → Option TI} (T : TyOk p.P ty) {o : Oper} {f : FIns} {k : FK} (hf : cFl ty o.op = some (f, k)) {n : Nat} {keep : List Nat} {E : Env} {w0 : Base} {w : World} {tm : Tm} {h : Heap} {a : Act}
    (HT : TmOk n keep E tm a.tmps) (HH : HeapOk p E h w0 w) {cs : List AV} (hcs : f tm = some cs) :
    ∃ vs el, concL E cs = some vs ∧ ∀ K, K (k.vals w.heap.size) (w.alloc (.cells vs.toArray el)) → Does p.P ((execOp a.eval o).run p.P w) K := by
  have key : ∀ op, o.op = op → cFl ty op = some (f, k) → ∃ vs el, concL E cs = some vs ∧ ∀ K, K (k.vals w.heap.size) (w.alloc (.cells vs.toArray el)) → Does p.P ((execOp a.eval o).run p.P w) K := by
    intro op ho hf
    unfold cFl at hf
    split at hf
    · rename_i t
      split at hf
      · rename_i i ht
        split at hf
        · rename_i z hz
          cases hf
          unfold flAlloc at hcs
          cases hb : allOk z with
          | false => rw [hb] at hcs; cases hcs
          | true =>
            rw [hb] at hcs
            cases hcs
            obtain ⟨v, hv0, rfl, hok, _⟩ := zeroOf_some hz
            obtain ⟨u, hu, hrun⟩ := run_zero T ht hv0 E w
            have hc := conc_cells hu hok
            refine ⟨u.cells.toList, t, hc, fun K hK => ?_⟩
            have hex : execOp a.eval o = (do let x ← Instr.alloc t true (.tuple #[]); pure (Next.value x)) := by unfold execOp; rw [ho]
            rw [hex]
            refine does_value (v := .pointer (some ⟨w.heap.size, 0, none⟩)) (w' := w.alloc (.cells u.cells t)) ?_ (by simpa [FK.vals] using hK)
            unfold Instr.alloc
            simp only [Sem.run_bind, hrun, Result.andThen_ok]
            rfl
        · cases hf
      · cases hf
    · rename_i t x
      split at hf
      · rename_i y hy
        cases hf
        unfold flBox at hcs
        cases hb : allOk (ev tm y).cellsOf with
        | false => rw [hb] at hcs; cases hcs
        | true =>
          rw [hb] at hcs
          cases hcs
          have hu := opd_some HT hy (cells_bad hb) HH.glob
          have hc := conc_cells hu hb
          refine ⟨(a.eval x).cells.toList, t, hc, fun K hK => ?_⟩
          have hex : execOp a.eval o = (do let x ← Instr.box t (a.eval x); pure (Next.value x)) := by unfold execOp; rw [ho]
          rw [hex]
          exact does_value (v := .pointer (some ⟨w.heap.size, 0, none⟩)) (w' := w.alloc (.cells (a.eval x).cells t)) rfl (by simpa [FK.vals] using hK)
      · cases hf
    · rename_i t len parts
      split at hf
      · rename_i i ht
        split at hf
        · rename_i e hd
          split at hf
          · rename_i j he
            split at hf
            · rename_i z hz
              cases hlen : Nat.ble (len * j.size) 1000000 with
              | false => rw [hlen] at hf; cases hf
              | true =>
                rw [hlen, cond_true] at hf
                have hlen := ble_t.1 hlen
                split at hf
                · rename_i ps hp
                  cases hf
                  unfold flSlice at hcs
                  have hu := T.und t i ht
                  rw [hd] at hu
                  obtain ⟨zv, hzv, hzrun, hzs⟩ := zero_cells T he hz E w
                  have hcells : concL E (rep z len) = some (rep zv.cells.toList len) := concL_rep hzv len
                  obtain ⟨cl, hcl, hfill⟩ := fill_ok HT HH.glob _ hp hcs hcells
                  have hex : execOp a.eval o = (do let x ← Instr.buildSlice t len (parts.map fun (i, x) => (i, a.eval x)); pure (Next.value x)) := by unfold execOp; rw [ho]
                  have hl : (parts.map fun (i, x) => (i, a.eval x)).toList = parts.toList.map fun q => (q.1, a.eval q.2) := by simp
                  refine ⟨cl, e, hcl, fun K hK => ?_⟩
                  rw [hex]
                  refine does_value (v := .slice (some ⟨w.heap.size, 0, none⟩) len len) (w' := w.alloc (.cells cl.toArray e)) ?_ (by simpa [FK.vals] using hK)
                  unfold Instr.buildSlice
                  simp only [Sem.run_bind, run_underlying hu, Result.andThen_ok, run_size T he]
                  rw [if_neg (by omega)]
                  rw [hl]
                  have hz' : ∀ x : Array Value, x = zv.cells ∨ (x = #[] ∧ len * j.size = 0) → ((Array.range (len * j.size)).map fun i => x[i % x.size]!) = (rep zv.cells.toList len).toArray := by
                    rintro x (rfl | ⟨rfl, h0⟩)
                    · rw [← hzs, zeros_eq]
                    · rw [← zeros_eq, hzs, h0]; simp
                  by_cases h0 : len * j.size = 0
                  · rw [if_pos h0]
                    simp only [Sem.run_bind, pure, Sem.run, Result.andThen_ok]
                    rw [hz' #[] (.inr ⟨rfl, h0⟩), hfill]
                    rfl
                  · rw [if_neg h0]
                    simp only [Sem.run_bind, pure, Sem.run, Result.andThen_ok, hzrun]
                    rw [hz' zv.cells (.inl rfl), hfill]
                    rfl
                · cases hf
            · cases hf
          · cases hf
        · cases hf
      · cases hf
    · cases hf
  exact key o.op rfl hf

end Go.Sx
/-! REGIONS WHOSE ORDER OF EVALUATION IS DRAWN: every order. -/
namespace Go.Sx
open Go.RowKit

theorem lRev_eq {α : Type} (l : List α) : lRev l = l.reverse := by
  have : ∀ (l m : List α), (@List.rec α (fun _ => List α → List α) (fun m => m) (fun a _ ih m => ih (a :: m)) l : List α → List α) m = l.reverse ++ m := by
    intro l
    induction l with
    | nil => intro m; rfl
    | cons a l ih => intro m; show (@List.rec α (fun _ => List α → List α) (fun m => m) (fun a _ ih m => ih (a :: m)) l : List α → List α) (a :: m) = _; rw [ih]; simp
  unfold lRev
  rw [this l []]; simp

theorem T.holds_at {α : Type} {ρ : Rho} {P : α → Prop} : ∀ t : T α, t.Holds ρ P → ∃ b, t.Holds ρ (fun x => x = b) ∧ P b
  | .ret a, h => ⟨a, rfl, h⟩
  | .fail w, h => absurd h id
  | .br c x y, h => by
    simp only [T.Holds] at h ⊢
    split at h
    · rename_i hc; obtain ⟨b, h1, h2⟩ := T.holds_at x h; exact ⟨b, by rw [if_pos hc]; exact h1, h2⟩
    · rename_i hc; obtain ⟨b, h1, h2⟩ := T.holds_at y h; exact ⟨b, by rw [if_neg hc]; exact h1, h2⟩
theorem uptoT_ok {f : Nat → T Bool} {ρ : Rho} : ∀ (n k : Nat), (uptoT f n k).Holds ρ (fun b => b = true) → ∀ j, k ≤ j → j ≤ k + n → (f j).Holds ρ fun b => b = true
  | 0, k, h, j, h1, h2 => by
    have : j = k := by omega
    subst this; exact h
  | n + 1, k, h, j, h1, h2 => by
    have h' : ((f k).bind fun b => cond b (uptoT f n (k + 1)) (.ret false)).Holds ρ (fun b => b = true) := h
    rw [T.holds_bind] at h'
    obtain ⟨b, hb, h'⟩ := T.holds_at _ h'
    cases b with
    | false => cases h'
    | true =>
      by_cases e : j = k
      · rw [e]; exact hb
      · exact uptoT_ok n (k + 1) h' j (by omega) (by omega)

theorem getD_set {l : Array Bool} {i j : Nat} : (l.setIfInBounds i true).getD j false = if i = j ∧ j < l.size then true else l.getD j false := by
  simp only [Array.getD_eq_getD_getElem?, Array.getElem?_setIfInBounds]
  by_cases h : i = j
  · subst h
    by_cases h2 : i < l.size
    · simp [h2]
    · simp [h2]
  · simp [h]

theorem getD_true {l : Array Bool} {j : Nat} (h : l.getD j true = false) : j < l.size ∧ l.getD j false = false := by
  simp only [Array.getD_eq_getD_getElem?] at *
  by_cases hj : j < l.size
  · simp [hj] at *; exact h
  · simp [hj] at h
theorem getD_false {l : Array Bool} {j : Nat} (hj : j < l.size) (h : l.getD j false = false) : l.getD j true = false := by
  simp only [Array.getD_eq_getD_getElem?] at *
  simp [hj] at *; exact h

/-- what is known of the allocations that no order binds -/
def FltOk (dis : List DI) (base : Nat) (pdF : List (Nat × List AV)) (E : Env) (listed : Array Bool) : Prop :=
  ∀ (i : Nat) (d : DI) (fl : FIns × FK × Nat), dis[i]? = some d → d.fl = some fl → base + fl.2.2 < E.n ∧
    (listed.getD i false = true → ∀ cs, lFind pdF fl.2.2 = some cs → ∃ c vs, E.σ (base + fl.2.2) = some (c, 0) ∧ concL E cs = some vs ∧ E.rc (base + fl.2.2) = vs.toArray) ∧
    (listed.getD i false = false → E.σ (base + fl.2.2) = none)

structure DInv (p : Par) (dis : List DI) (ms : List Nat) (N : Nat) (base : Nat) (pdF : List (Nat × List AV)) (HS : List Heap) (tmF : Tm) (E0 E : Env) (w0 : Base) (w : World) (arr0 : Array Value) (ds0 : List Deferred) (listed : Array Bool) (a : Act) (k : Nat) : Prop where
  le : E0.le E
  hp : ∃ h, HS[k]? = some h ∧ HeapOk p E h w0 w
  sz : listed.size = N
  cl : ∀ i, listed.getD i false = true → ∀ j, Nat.testBit (natGet ms i) j = true → listed.getD j false = true
  eff : ∀ (i : Nat) (d : DI), dis[i]? = some d → d.eff = true → (listed.getD i false = true ↔ d.lo < k)
  val : ∀ (i : Nat) (d : DI) (t : Nat) (v : AV), dis[i]? = some d → listed.getD i false = true → d.ci.dst = some t → tmF.look t = some v → good E a.tmps t v
  old : ∀ t, (∀ (j : Nat) (d : DI), dis[j]? = some d → d.ci.dst = some t → listed.getD j false = false) → a.tmps[t]? = arr0[t]?
  asz : a.tmps.size = arr0.size
  adf : a.defers = ds0
  flt : FltOk dis base pdF E listed

theorem DInv.next {p : Par} {dis : List DI} {ms : List Nat} {N base : Nat} {pdF : List (Nat × List AV)} {HS : List Heap} {tmF : Tm} {E0 E E' : Env} {w0 : Base} {w w' : World} {arr0 : Array Value} {ds0 : List Deferred} {listed : Array Bool} {a : Act} {k k' : Nat}
    (I : DInv p dis ms N base pdF HS tmF E0 E w0 w arr0 ds0 listed a k) (ho : Once dis) {i : Nat} {d : DI} (hd : dis[i]? = some d) (hi : i < N)
    (hanc : ∀ j, Nat.testBit (natGet ms i) j = true → listed.getD j false = true) (hE0 : E0.le E') (hle : E.le0 E') (hfl : FltOk dis base pdF E' (listed.setIfInBounds i true)) {h' : Heap} (hH : HS[k']? = some h') (HH : HeapOk p E' h' w0 w')
    (hnum : ∀ (j : Nat) (e : DI), dis[j]? = some e → e.eff = true → j ≠ i → (e.lo < k' ↔ e.lo < k)) (hme : d.eff = true → d.lo < k') {v : AV} {cv : Value} (hv : ∀ t, d.ci.dst = some t → conc E' v = some cv)
    (hdst : ∀ t, d.ci.dst = some t → tmF.look t = some v ∧ t < arr0.size) : DInv p dis ms N base pdF HS tmF E0 E' w0 w' arr0 ds0 (listed.setIfInBounds i true) (a.put d.ci.dst cv) k' := by
  refine ⟨hE0, ⟨h', hH, HH⟩, by simp [I.sz], fun i' h j hb => ?_, fun i' d' hd' he' => ?_, fun i' d' t v' hd' hl' ht' hv' => ?_, fun t ht => ?_, ?_, ?_, hfl⟩
  · rw [getD_set] at h ⊢
    have key : listed.getD j false = true := by
      by_cases c : i = i' ∧ i' < listed.size
      · obtain ⟨rfl, _⟩ := c; exact hanc j hb
      · rw [if_neg c] at h; exact I.cl i' h j hb
    split
    · rfl
    · exact key
  · rw [getD_set]
    by_cases c : i = i'
    · subst c
      rw [hd] at hd'; cases hd'
      rw [if_pos ⟨rfl, by rw [I.sz]; exact hi⟩]
      exact ⟨fun _ => hme he', fun _ => rfl⟩
    · rw [if_neg (fun h => c h.1), hnum i' d' hd' he' (Ne.symm c)]
      exact I.eff i' d' hd' he'
  · by_cases c : i = i'
    · subst c
      rw [hd] at hd'; cases hd'
      obtain ⟨h1, h2⟩ := hdst t ht'
      rw [h1] at hv'; cases hv'
      refine ⟨cv, hv t ht', ?_⟩
      rw [ht']
      simp only [Act.put]
      rw [Array.getElem?_setIfInBounds]
      simp [I.asz, h2]
    · rw [getD_set, if_neg (fun h => c h.1)] at hl'
      obtain ⟨u, g1, g2⟩ := (I.val i' d' t v' hd' hl' ht' hv').mono hle
      refine ⟨u, g1, ?_⟩
      cases hdd : d.ci.dst with
      | none => exact g2
      | some t' =>
        have hne : t' ≠ t := by
          rintro rfl
          rcases Nat.lt_or_ge i i' with hlt | hge
          · exact ho i i' d d' t' hlt hd hd' hdd ht'
          · exact ho i' i d' d t' (by omega) hd' hd ht' hdd
        simp only [Act.put]
        rw [Array.getElem?_setIfInBounds_ne hne]; exact g2
  · have hno : ∀ (j : Nat) (e : DI), dis[j]? = some e → e.ci.dst = some t → i ≠ j ∧ listed.getD j false = false := fun j e hj he => by
      have h1 := ht j e hj he
      rw [getD_set] at h1
      by_cases c : i = j ∧ j < listed.size
      · rw [if_pos c] at h1; cases h1
      · rw [if_neg c] at h1
        refine ⟨fun h => c ⟨h, ?_⟩, h1⟩
        rw [I.sz, ← h]; exact hi
    rw [← I.old t fun j e hj he => (hno j e hj he).2]
    cases hdd : d.ci.dst with
    | none => rfl
    | some t' =>
      have hne : t' ≠ t := by
        rintro rfl
        exact (hno i d hd hdd).1 rfl
      simp only [Act.put]
      rw [Array.getElem?_setIfInBounds_ne hne]
  · rw [← I.asz]
    cases hdd : d.ci.dst with
    | none => rfl
    | some t' => simp [Act.put]
  · rw [← I.adf]
    cases hdd : d.ci.dst <;> rfl

end Go.Sx
/-! REGIONS WHOSE ORDER OF EVALUATION IS DRAWN: the law. -/
namespace Go.Sx
open Go.RowKit

theorem numbered_inj : ∀ (l : List DI) (k : Nat), numbered k l = true → ∀ (i j : Nat) (d e : DI), l[i]? = some d → l[j]? = some e → d.eff = true → e.eff = true → d.lo = e.lo → i = j
  | [], k, _, i, j, d, e, h, _, _, _, _ => by simp at h
  | o :: l, k, hn, i, j, d, e, h1, h2, e1, e2, hl => by
    have hn0 := hn
    simp only [numbered] at hn
    cases he : o.eff with
    | false =>
      rw [he, cond_false] at hn
      cases i with
      | zero => simp at h1; subst h1; rw [he] at e1; cases e1
      | succ i => cases j with
        | zero => simp at h2; subst h2; rw [he] at e2; cases e2
        | succ j => simp at h1 h2; rw [numbered_inj l k hn i j d e h1 h2 e1 e2 hl]
    | true =>
      rw [he, cond_true] at hn
      simp only [Bool.and_eq_true] at hn
      have hk := beq_t.1 hn.1
      cases i with
      | zero => cases j with
        | zero => rfl
        | succ j => simp at h1 h2; subst h1; have := numbered_lt l (k + 1) hn.2 j e h2 e2; omega
      | succ i => cases j with
        | zero => simp at h1 h2; subst h2; have := numbered_lt l (k + 1) hn.2 i d h1 e1; omega
        | succ j => simp at h1 h2; rw [numbered_inj l (k + 1) hn.2 i j d e h1 h2 e1 e2 hl]

structure PlanOk (ty : Nat → Option TI) (n : Nat) (keep : List Nat) (ops : Array Oper) (fls ms : List Nat) (dis : List DI) : Prop where
  here : ∀ (i : Nat) (o : Oper), ops[i]? = some o → ∃ d, dis[i]? = some d ∧ cOper ty n keep ops.toList o = some d.ci ∧ PlanIs ty fls ms i o d
  back : ∀ (i : Nat) (d : DI), dis[i]? = some d → ∃ o, ops[i]? = some o ∧ cOper ty n keep ops.toList o = some d.ci ∧ PlanIs ty fls ms i o d
  pair : ∀ (i j : Nat) (a b : DI), dis[i]? = some a → dis[j]? = some b → pairOk ms i j a b = true
  edge : ∀ (i : Nat) (o : Oper), ops[i]? = some o → ∀ e ∈ o.after, Region.binds .any e = true → e.on < i
  num : numbered 0 dis = true
  bit : ∀ (i : Nat) (o : Oper) (j : Nat), ops[i]? = some o → Nat.testBit (natGet ms i) j = true → ∃ e ∈ o.after, Region.binds .any e = true ∧ (e.on = j ∨ Nat.testBit (natGet ms e.on) j = true)

theorem planOk_of {ty : Nat → Option TI} {n : Nat} {keep : List Nat} {ops : Array Oper} {cs : List CI} (hcs : cOpers ty n keep ops.toList ops.toList = some cs) {effs fls : List Nat} {dis : List DI} (hpl : planOf ty effs fls (masks [] ops.toList) 0 ops.toList cs = some dis)
    (hok : drawOk ops.toList (masks [] ops.toList) dis = true) : PlanOk ty n keep ops fls (masks [] ops.toList) dis := by
  obtain ⟨hl, hget⟩ := cOpers_get _ _ hcs
  obtain ⟨hpl, hpg⟩ := planOf_get effs fls (masks [] ops.toList) ops.toList cs 0 dis hl hpl
  simp only [drawOk, Bool.and_eq_true] at hok
  have here : ∀ (i : Nat) (o : Oper), ops[i]? = some o → ∃ d, dis[i]? = some d ∧ cOper ty n keep ops.toList o = some d.ci ∧ PlanIs ty fls (masks [] ops.toList) i o d := fun i o h => by
    have h' : ops.toList[i]? = some o := by simpa using h
    obtain ⟨c, hc1, hc2⟩ := hget i o h'
    obtain ⟨d, hd1, hd2⟩ := hpg i o c h' hc1
    obtain ⟨p1, _, p2⟩ := planAt_is hd2
    rw [Nat.zero_add] at p2
    exact ⟨d, hd1, by rw [p1]; exact hc2, p2⟩
  refine ⟨here, fun i d h => ?_, fun i j a b h1 h2 => ?_, fun i o h e he hbe => ?_, hok.2, fun i o j h hb => ?_⟩
  · have hi : i < ops.toList.length := by rw [← hpl]; exact (List.getElem?_eq_some_iff.1 h).1
    have ho : ops[i]? = some ops[i]! := by
      have : i < ops.size := by simpa using hi
      simp [this]
    obtain ⟨d', h1, h2⟩ := here i _ ho
    rw [h] at h1; cases h1
    exact ⟨_, ho, h2⟩
  · have := rowsOk_get _ 0 hok.1.1 i a j b h1 h2
    simpa using this
  · have := edgesOk_get _ 0 hok.1.2 i o (by simpa using h) e he hbe
    omega
  · have := masks_bit ops.toList [] i o j (by simpa using h) (by simpa using hb)
    exact this

theorem posOf_inj : ∀ (l : List Nat) (i j : Nat), memB l i = true → memB l j = true → posOf l i = posOf l j → i = j
  | [], i, j, h, _, _ => by simp [memB] at h
  | a :: l, i, j, hi, hj, e => by
    simp only [posOf] at e
    by_cases c1 : a = i
    · by_cases c2 : a = j
      · omega
      · rw [beq_t.2 c1, beq_f.2 c2, cond_true, cond_false] at e; omega
    · by_cases c2 : a = j
      · rw [beq_f.2 c1, beq_t.2 c2, cond_true, cond_false] at e; omega
      · rw [beq_f.2 c1, beq_f.2 c2, cond_false, cond_false] at e
        have hi' : memB l i = true := by
          simp only [memB, List.any_cons, Bool.or_eq_true] at hi
          rcases hi with h | h
          · exact absurd (beq_t.1 h).symm c1
          · exact h
        have hj' : memB l j = true := by
          simp only [memB, List.any_cons, Bool.or_eq_true] at hj
          rcases hj with h | h
          · exact absurd (beq_t.1 h).symm c2
          · exact h
        exact posOf_inj l i j hi' hj' (Nat.succ.inj e)

theorem dueOf_mem {ms : List Nat} {i : Nat} {all : List Nat} : ∀ (l : List Nat) (j : Nat), j ∈ dueOf ms i all l → ∃ f ∈ l, Nat.testBit (natGet ms i) f = true ∧ j = posOf all f
  | [], j, h => by cases h
  | f :: l, j, h => by
    simp only [dueOf] at h
    cases hb : Nat.testBit (natGet ms i) f with
    | false =>
      rw [hb, cond_false] at h
      obtain ⟨f', h1, h2⟩ := dueOf_mem l j h
      exact ⟨f', List.mem_cons_of_mem _ h1, h2⟩
    | true =>
      rw [hb, cond_true] at h
      rcases List.mem_cons.1 h with rfl | h
      · exact ⟨f, List.mem_cons_self, hb, rfl⟩
      · obtain ⟨f', h1, h2⟩ := dueOf_mem l j h
        exact ⟨f', List.mem_cons_of_mem _ h1, h2⟩

theorem memB_of {l : List Nat} {f : Nat} (h : f ∈ l) : memB l f = true := by
  rw [memB, List.any_eq_true]; exact ⟨f, h, beq_t.2 rfl⟩

section
variable {ty : Nat → Option TI} {n : Nat} {keep : List Nat} {ops : Array Oper} {fls ms : List Nat} {dis : List DI}

theorem PlanOk.lt (L : PlanOk ty n keep ops fls ms dis) (i : Nat) : ∀ (o : Oper) (j : Nat), ops[i]? = some o → Nat.testBit (natGet ms i) j = true → j < i := by
  induction i using Nat.strongRecOn with
  | _ i ih =>
    intro o j h hb
    obtain ⟨e, he, hbe, h1⟩ := L.bit i o j h hb
    have hlt := L.edge i o h e he hbe
    rcases h1 with rfl | h1
    · exact hlt
    · have hsz : i < ops.size := (Array.getElem?_eq_some_iff.1 h).1
      have ho : ops[e.on]? = some ops[e.on]! := by
        have : e.on < ops.size := by omega
        simp [this]
      have := ih e.on hlt _ j ho h1
      omega

theorem PlanOk.once (L : PlanOk ty n keep ops fls ms dis) : Once dis := by
  intro i j d d' t hij h1 h2 h3 h4
  have := L.pair i j d d' h1 h2
  simp only [pairOk, Bool.and_eq_true, h3, h4] at this
  have := this.1.2
  simp only [Bool.or_eq_true, Bool.not_eq_true'] at this
  rcases this with h | h
  · rw [beq_t.2 rfl] at h; cases h
  · have := beq_t.1 h; omega

theorem PlanOk.quiet (L : PlanOk ty n keep ops fls ms dis) : ∀ d ∈ dis, QuietD d := by
  intro d hd hfl he
  obtain ⟨i, hi⟩ := List.getElem?_of_mem hd
  obtain ⟨o, ho, hc, hp⟩ := L.back i d hi
  rcases hp with ⟨_, h2, _, h4, _⟩ | ⟨q, _, h2, _⟩
  · exact ⟨h4 he, fun cx tm h ρ r e => quiet_runC hc (by rw [← h2]; exact he) e⟩
  · rw [h2] at hfl; cases hfl

theorem PlanOk.floatD (L : PlanOk ty n keep ops fls ms dis) : ∀ d ∈ dis, FloatD d := by
  intro d hd hfl
  obtain ⟨i, hi⟩ := List.getElem?_of_mem hd
  obtain ⟨o, ho, hc, hp⟩ := L.back i d hi
  rcases hp with ⟨h1, _⟩ | ⟨q, _, _, h3, _⟩
  · exact absurd h1 hfl
  · exact h3

theorem PlanOk.ord (L : PlanOk ty n keep ops fls ms dis) {i : Nat} {d : DI} {f : FIns × FK × Nat} (hi : dis[i]? = some d) (hf : d.fl = some f) : f.2.2 = posOf fls i ∧ memB fls i = true := by
  obtain ⟨o, ho, hc, hp⟩ := L.back i d hi
  rcases hp with ⟨h1, _⟩ | ⟨q, _, h2, _, h4⟩
  · rw [hf] at h1; cases h1
  · rw [hf] at h2; cases h2; exact ⟨rfl, h4⟩

theorem PlanOk.onceF (L : PlanOk ty n keep ops fls ms dis) : OnceF dis := by
  intro i j d d' f f' hij h1 h2 hf hf' e
  obtain ⟨a1, a2⟩ := L.ord h1 hf
  obtain ⟨b1, b2⟩ := L.ord h2 hf'
  have := posOf_inj fls i j a2 b2 (by rw [← a1, ← b1]; exact e)
  omega

/-- what an effect comes behind has been laid -/
theorem PlanOk.due (L : PlanOk ty n keep ops fls ms dis) {i : Nat} {d : DI} (hi : dis[i]? = some d) (hfl : d.fl = none) {j : Nat} (hj : j ∈ d.due) : ∃ (i' : Nat) (d' : DI) (f : FIns × FK × Nat), Nat.testBit (natGet ms i) i' = true ∧ dis[i']? = some d' ∧ d'.fl = some f ∧ f.2.2 = j := by
  obtain ⟨o, ho, hc, hp⟩ := L.back i d hi
  rcases hp with ⟨_, h2, _, h4, h5⟩ | ⟨q, _, h2, _⟩
  · cases he : d.eff with
    | false => rw [h4 he] at hj; cases hj
    | true =>
      rw [h5 he] at hj
      obtain ⟨f, hf1, hf2, rfl⟩ := dueOf_mem fls j hj
      have hlt : f < i := L.lt i o f ho hf2
      have hsz : i < ops.size := (Array.getElem?_eq_some_iff.1 ho).1
      have hof : ops[f]? = some ops[f]! := by
        have : f < ops.size := by omega
        simp [this]
      obtain ⟨d', hd', _, hp'⟩ := L.here f _ hof
      rcases hp' with ⟨_, _, h3, _⟩ | ⟨q, _, h2, _⟩
      · rw [memB_of hf1] at h3; cases h3
      · exact ⟨f, d', _, hf2, hd', h2, rfl⟩
  · rw [hfl] at h2; cases h2

theorem PlanOk.reads (L : PlanOk ty n keep ops fls ms dis) {i j : Nat} {d d' : DI} (h1 : dis[i]? = some d) (h2 : dis[j]? = some d') {t : Nat} (ht : t ∈ d.reads) (hd : d'.ci.dst = some t) : Nat.testBit (natGet ms i) j = true ∨ Nat.testBit (natGet ms j) i = true := by
  have := L.pair i j d d' h1 h2
  simp only [pairOk, Bool.and_eq_true, hd] at this
  have := this.1.1
  simp only [Bool.or_eq_true, Bool.not_eq_true'] at this
  rcases this with h | h
  · rw [List.any_eq_false] at h
    exact absurd (beq_t.2 rfl) (h t ht)
  · exact h

theorem PlanOk.effs (L : PlanOk ty n keep ops fls ms dis) {i j : Nat} {d e : DI} (h1 : dis[j]? = some e) (h2 : dis[i]? = some d) (he : e.eff = true) (hd : d.eff = true) (hl : e.lo < d.lo) : Nat.testBit (natGet ms i) j = true := by
  have := L.pair j i e d h1 h2
  simp only [pairOk, Bool.and_eq_true, hd, he, cond_true] at this
  have := this.2
  simp only [Bool.or_eq_true] at this
  rcases this with h | h
  · have := ble_t.1 h; omega
  · exact h

theorem PlanOk.lo (L : PlanOk ty n keep ops fls ms dis) {i j : Nat} {d e : DI} (h1 : dis[i]? = some d) (h2 : dis[j]? = some e) (he : e.eff = true) (hd : d.eff = false) (hl : e.lo < d.lo) : Nat.testBit (natGet ms i) j = true := by
  have := L.pair i j d e h1 h2
  simp only [pairOk, Bool.and_eq_true, hd, he, cond_true, cond_false] at this
  have := this.2.1
  simp only [Bool.or_eq_true] at this
  rcases this with h | h
  · have := ble_t.1 h; omega
  · exact h
theorem PlanOk.hi (L : PlanOk ty n keep ops fls ms dis) {i j : Nat} {d e : DI} (h1 : dis[i]? = some d) (h2 : dis[j]? = some e) (he : e.eff = true) (hd : d.eff = false) (hl : d.hi ≤ e.lo) : Nat.testBit (natGet ms j) i = true := by
  have := L.pair i j d e h1 h2
  simp only [pairOk, Bool.and_eq_true, hd, he, cond_true, cond_false] at this
  have := this.2.2
  simp only [Bool.or_eq_true] at this
  rcases this with h | h
  · have := ble_t.1 h; omega
  · exact h
end

end Go.Sx
