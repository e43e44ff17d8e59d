/- ALLOCATIONS THAT NO ORDER BINDS: their numbers reserved; what they lay. -/
import Derived.Test.YtaapomafjjikhaaGreatDoorSxDraw2
/-! ALLOCATIONS THAT NO ORDER BINDS: their numbers reserved; what they lay. -/
namespace Go.Sx
open Go.RowKit

def Env.atN (E : Env) (k : Nat) : Env := ⟨E.ρ, E.σ, E.κ, k, E.rc⟩
theorem Env.atN_le0 (E : Env) (k : Nat) : E.le0 (E.atN k) := ⟨rfl, fun _ _ h => h, fun _ _ _ => rfl, fun _ _ _ => rfl⟩
theorem Env.atN_le (E : Env) {k : Nat} (h : E.n ≤ k) : E.le (E.atN k) := ⟨E.atN_le0 k, h, fun _ _ h => h⟩

theorem HeapOk.resv1 {p : Par} {E : Env} {h : Heap} {w0 : Base} {w : World} (k : HeapOk p E h w0 w) : HeapOk p (E.atN (h.next + 1)) (h.new .resv) w0 w := by
  have hf : E.σ h.next = none := k.fresh _ (Nat.le_refl _)
  have f : ∀ i z, (h.new .resv).get i = some z → (i = h.next ∧ z = .resv) ∨ (i ≠ h.next ∧ h.get i = some z) := fun i z e => by
    rw [Heap.get_new] at e
    by_cases hi : i = h.next
    · rw [if_pos hi] at e; cases e; exact .inl ⟨hi, rfl⟩
    · rw [if_neg hi] at e; exact .inr ⟨hi, e⟩
  have no : ∀ c x, E.σ h.next ≠ some (c, x) := fun c x e => by rw [hf] at e; cases e
  refine ⟨fun b o e => ?_, fun b b' o1 o2 c x y h1 h2 w1 w2 e1 e2 => ?_, fun b o c x e ow s => ?_, fun b o c y hg hr s => ?_, fun b hb => ?_, fun b o c x g e => ?_, k.glob, k.below, Nat.le_refl _, k.ok⟩
  · rcases f b o e with ⟨rfl, rfl⟩ | ⟨_, g⟩
    · exact .inl hf
    · exact (k.obj b o g).mono (E.atN_le0 _) (fun hn => hn) (fun c x _ _ => rfl)
  · rcases f b o1 h1 with ⟨rfl, rfl⟩ | ⟨_, g1⟩
    · exact absurd e1 (no c x)
    · rcases f b' o2 h2 with ⟨rfl, rfl⟩ | ⟨_, g2⟩
      · exact absurd e2 (no c y)
      · exact k.inj b b' o1 o2 c x y g1 g2 w1 w2 e1 e2
  · rcases f b o e with ⟨rfl, rfl⟩ | ⟨_, g⟩
    · exact absurd s (no c x)
    · exact k.base b o c x g ow s
  · rcases f b _ hg with ⟨_, rfl⟩ | ⟨_, g⟩
    · cases hr
    · exact k.ro b o c y g hr s
  · exact k.fresh b (by rw [Heap.next_new] at hb; omega)
  · rcases f b o g with ⟨rfl, rfl⟩ | ⟨_, g⟩
    · exact absurd e (no c x)
    · exact k.lt b o c x g e

theorem resvN_next : ∀ (m : Nat) (h : Heap), (resvN m h).next = h.next + m
  | 0, h => rfl
  | m + 1, h => by rw [resvN, resvN_next m, Heap.next_new]; omega

theorem HeapOk.resvN {p : Par} {w0 : Base} {w : World} : ∀ (m : Nat) (E : Env) (h : Heap), HeapOk p E h w0 w → HeapOk p (E.atN (h.next + m)) (Sx.resvN m h) w0 w
  | 0, E, h, k => by
    refine ⟨fun b o e => (k.obj b o e).mono (E.atN_le0 _) (fun hn => hn) (fun _ _ _ _ => rfl), k.inj, k.base, k.ro, k.fresh, k.lt, k.glob, k.below, Nat.le_refl _, k.ok⟩
  | m + 1, E, h, k => by
    have := HeapOk.resvN m _ _ k.resv1
    rw [Heap.next_new] at this
    rw [show h.next + 1 + m = h.next + (m + 1) by omega] at this
    exact this

/-- a reserved number is turned to what was laid -/
theorem HeapOk.unresv {p : Par} {E : Env} {h : Heap} {w0 : Base} {w : World} (k : HeapOk p E h w0 w) {b c : Nat} {cs : List AV} {vs : List Value} (hg : h.get b = some .resv) (hσ : E.σ b = some (c, 0)) (hv : concL E cs = some vs) (hrc : E.rc b = vs.toArray) :
    HeapOk p E (h.put b (.cells cs 0 true false)) w0 w := by
  rcases k.obj b _ hg with hn | ⟨c', el, h1, h2⟩
  · rw [hσ] at hn; cases hn
  · rw [hσ] at h1; cases h1
    refine k.turn hg rfl hσ rfl ⟨c, 0, vs, vs.toArray, el, (0, 0), hσ, hv, by rw [← hrc]; exact h2, fun i _ => by simp, fun _ => ⟨rfl, rfl, fun _ => by simp, fun e => by cases e⟩⟩ (fun _ _ => rfl) rfl rfl rfl (Nat.le_refl _)

theorem convR_ok {p : Par} {E : Env} {w0 : Base} {w : World} {base : Nat} {pd : List (Nat × List AV)} : ∀ (l : List Nat) (h h1 : Heap), (∀ j ∈ l, ∀ cs, lFind pd j = some cs → ∃ c vs, E.σ (base + j) = some (c, 0) ∧ concL E cs = some vs ∧ E.rc (base + j) = vs.toArray) →
    HeapOk p E h w0 w → conv base pd l h = some h1 → HeapOk p E h1 w0 w
  | [], h, h1, _, k, e => by cases e; exact k
  | j :: l, h, h1, hj, k, e => by
    have htl : ∀ j' ∈ l, ∀ cs, lFind pd j' = some cs → ∃ c vs, E.σ (base + j') = some (c, 0) ∧ concL E cs = some vs ∧ E.rc (base + j') = vs.toArray := fun j' h' => hj j' (List.mem_cons_of_mem _ h')
    unfold conv at e
    split at e
    · exact convR_ok l h h1 htl k e
    · rename_i cs hf
      split at e
      · rename_i o hg
        split at e
        · obtain ⟨c, vs, g1, g2, g3⟩ := hj j List.mem_cons_self cs hf
          exact convR_ok l _ h1 htl (k.unresv hg g1 g2 g3) e
        · exact convR_ok l h h1 htl k e
        · cases e
      · cases e

/-- the block of a reserved number is laid -/
def Env.lay (E : Env) (b c : Nat) (vs : Array Value) : Env := ⟨E.ρ, fun i => if i = b then some (c, 0) else E.σ i, E.κ, E.n, fun i => if i = b then vs else E.rc i⟩
theorem Env.lay_le0 {E : Env} {b c : Nat} {vs : Array Value} (h : E.σ b = none) : E.le0 (E.lay b c vs) := by
  have hne : ∀ i p, E.σ i = some p → i ≠ b := fun i p e => by rintro rfl; rw [h] at e; cases e
  exact ⟨rfl, fun i p e => by simp only [Env.lay, if_neg (hne i p e)]; exact e, fun _ _ _ => rfl, fun i p e => by simp only [Env.lay, if_neg (hne i p e)]⟩
theorem Env.lay_σ (E : Env) (b c : Nat) (vs : Array Value) : (E.lay b c vs).σ b = some (c, 0) := by simp [Env.lay]
theorem Env.lay_rc (E : Env) (b c : Nat) (vs : Array Value) : (E.lay b c vs).rc b = vs := by simp [Env.lay]
theorem Env.lay_ne (E : Env) {b i : Nat} (c : Nat) (vs : Array Value) (h : i ≠ b) : (E.lay b c vs).σ i = E.σ i ∧ (E.lay b c vs).rc i = E.rc i := by simp [Env.lay, h]

theorem HeapOk.lay {p : Par} {E : Env} {h : Heap} {w0 : Base} {w : World} (k : HeapOk p E h w0 w) {b : Nat} (hσ : E.σ b = none) (hb : b < h.next) (hown : ∀ o, h.get b = some o → o = .resv ∨ o = .dead) (vs : Array Value) (el : TypeId) :
    HeapOk p (E.lay b w.heap.size vs) h w0 (w.alloc (.cells vs el)) := by
  have hle := Env.lay_le0 (c := w.heap.size) (vs := vs) hσ
  have hsz : (w.alloc (.cells vs el)).heap = w.heap.push (.cells vs el) := rfl
  have hold : ∀ c, c < w.heap.size → (w.heap.push (Obj.cells vs el))[c]? = w.heap[c]? := fun c hc => by rw [Array.getElem?_push, if_neg (by omega)]
  have h1000 : 1000 ≤ b := by
    rcases Nat.lt_or_ge b 1000 with h | h
    · rw [k.glob b h] at hσ; cases hσ
    · exact h
  have hs : ∀ i q, i ≠ b → (E.lay b w.heap.size vs).σ i = some q → E.σ i = some q := fun i q hi e => by rw [(Env.lay_ne E _ _ hi).1] at e; exact e
  refine ⟨fun i o e => ?_, fun i i' o1 o2 c x y h1 h2 w1 w2 e1 e2 => ?_, fun i o c x e ow s => ?_, fun i o c y hg hr s => ?_, fun i hi => ?_, fun i o c x g e => ?_, fun i hi => ?_, ?_, k.nx, k.ok⟩
  · by_cases hi : i = b
    · subst hi
      rcases hown o e with rfl | rfl
      · exact .inr ⟨w.heap.size, el, Env.lay_σ _ _ _ _, by rw [hsz, Env.lay_rc]; simp⟩
      · trivial
    · exact (k.obj i o e).mono hle (fun hn => by rw [(Env.lay_ne E _ _ hi).1]; exact hn) (fun c x hc _ => by rw [hsz]; exact hold c (k.lt i o c x e hc))
  · by_cases hi : i = b
    · by_cases hi' : i' = b
      · rw [hi, hi']
      · rw [hi, Env.lay_σ] at e1; cases e1
        exact absurd (k.lt i' _ _ _ h2 (hs i' _ hi' e2)) (Nat.lt_irrefl _)
    · by_cases hi' : i' = b
      · rw [hi', Env.lay_σ] at e2; cases e2
        exact absurd (k.lt i _ _ _ h1 (hs i _ hi e1)) (Nat.lt_irrefl _)
      · exact k.inj i i' o1 o2 c x y h1 h2 w1 w2 (hs i _ hi e1) (hs i' _ hi' e2)
  · by_cases hi : i = b
    · rw [hi, Env.lay_σ] at s; cases s; exact k.below.fresh
    · exact k.base i o c x e ow (hs i _ hi s)
  · by_cases hi : i = b
    · subst hi; rcases hown _ hg with h | h <;> subst h <;> cases hr
    · exact k.ro i o c y hg hr (hs i _ hi s)
  · rw [(Env.lay_ne E _ _ (by omega)).1]; exact k.fresh i hi
  · rw [hsz, Array.size_push]
    by_cases hi : i = b
    · rw [hi, Env.lay_σ] at e; cases e; omega
    · have := k.lt i o c x g (hs i _ hi e); omega
  · exact hle.σ _ _ (k.glob i hi)
  · exact k.below.alloc (fun c hc => k.below.lt hc) _

/-! ## What an allocation lays -/
def FK.vals (k : FK) (c : Nat) : Value :=
  match k with
  | .ptr => .pointer (some ⟨c, 0, none⟩)
  | .sl n => .slice (some ⟨c, 0, none⟩) n n
theorem FK.val_conc {k : FK} {E : Env} {b c : Nat} (h : E.σ b = some (c, 0)) : conc E (k.val b) = some (k.vals c) := by
  cases k <;> simp [FK.val, FK.vals, conc, h]

theorem cFl_ok {p : Par} {ty : Nat → Option TI} (T : TyOk p.P ty) {o : Oper} {f : FIns} {k : FK} (hf : cFl ty o.op = some (f, k)) {n : Nat} {keep : List Nat} {E : Env} {w0 : Base} {w : World} {tm : Tm} {h : Heap} {a : Act}
    (HT : TmOk n keep E tm a.tmps) (HH : HeapOk p E h w0 w) {cs : List AV} (hcs : f tm = some cs) :
    ∃ vs el, concL E cs = some vs ∧ ∀ K, K (k.vals w.heap.size) (w.alloc (.cells vs.toArray el)) → Does p.P ((execOp a.eval o).run p.P w) K := by
  have key : ∀ op, o.op = op → cFl ty op = some (f, k) → ∃ vs el, concL E cs = some vs ∧ ∀ K, K (k.vals w.heap.size) (w.alloc (.cells vs.toArray el)) → Does p.P ((execOp a.eval o).run p.P w) K := by
    intro op ho hf
    unfold cFl at hf
    split at hf
    · rename_i t
      split at hf
      · rename_i i ht
        split at hf
        · rename_i z hz
          cases hf
          unfold flAlloc at hcs
          cases hb : allOk z with
          | false => rw [hb] at hcs; cases hcs
          | true =>
            rw [hb] at hcs
            cases hcs
            obtain ⟨v, hv0, rfl, hok, _⟩ := zeroOf_some hz
            obtain ⟨u, hu, hrun⟩ := run_zero T ht hv0 E w
            have hc := conc_cells hu hok
            refine ⟨u.cells.toList, t, hc, fun K hK => ?_⟩
            have hex : execOp a.eval o = (do let x ← Instr.alloc t true (.tuple #[]); pure (Next.value x)) := by unfold execOp; rw [ho]
            rw [hex]
            refine does_value (v := .pointer (some ⟨w.heap.size, 0, none⟩)) (w' := w.alloc (.cells u.cells t)) ?_ (by simpa [FK.vals] using hK)
            unfold Instr.alloc
            simp only [Sem.run_bind, hrun, Result.andThen_ok]
            rfl
        · cases hf
      · cases hf
    · rename_i t x
      split at hf
      · rename_i y hy
        cases hf
        unfold flBox at hcs
        cases hb : allOk (ev tm y).cellsOf with
        | false => rw [hb] at hcs; cases hcs
        | true =>
          rw [hb] at hcs
          cases hcs
          have hu := opd_some HT hy (cells_bad hb) HH.glob
          have hc := conc_cells hu hb
          refine ⟨(a.eval x).cells.toList, t, hc, fun K hK => ?_⟩
          have hex : execOp a.eval o = (do let x ← Instr.box t (a.eval x); pure (Next.value x)) := by unfold execOp; rw [ho]
          rw [hex]
          exact does_value (v := .pointer (some ⟨w.heap.size, 0, none⟩)) (w' := w.alloc (.cells (a.eval x).cells t)) rfl (by simpa [FK.vals] using hK)
      · cases hf
    · rename_i t len parts
      split at hf
      · rename_i i ht
        split at hf
        · rename_i e hd
          split at hf
          · rename_i j he
            split at hf
            · rename_i z hz
              cases hlen : Nat.ble (len * j.size) 1000000 with
              | false => rw [hlen] at hf; cases hf
              | true =>
                rw [hlen, cond_true] at hf
                have hlen := ble_t.1 hlen
                split at hf
                · rename_i ps hp
                  cases hf
                  unfold flSlice at hcs
                  have hu := T.und t i ht
                  rw [hd] at hu
                  obtain ⟨zv, hzv, hzrun, hzs⟩ := zero_cells T he hz E w
                  have hcells : concL E (rep z len) = some (rep zv.cells.toList len) := concL_rep hzv len
                  obtain ⟨cl, hcl, hfill⟩ := fill_ok HT HH.glob _ hp hcs hcells
                  have hex : execOp a.eval o = (do let x ← Instr.buildSlice t len (parts.map fun (i, x) => (i, a.eval x)); pure (Next.value x)) := by unfold execOp; rw [ho]
                  have hl : (parts.map fun (i, x) => (i, a.eval x)).toList = parts.toList.map fun q => (q.1, a.eval q.2) := by simp
                  refine ⟨cl, e, hcl, fun K hK => ?_⟩
                  rw [hex]
                  refine does_value (v := .slice (some ⟨w.heap.size, 0, none⟩) len len) (w' := w.alloc (.cells cl.toArray e)) ?_ (by simpa [FK.vals] using hK)
                  unfold Instr.buildSlice
                  simp only [Sem.run_bind, run_underlying hu, Result.andThen_ok, run_size T he]
                  rw [if_neg (by omega)]
                  rw [hl]
                  have hz' : ∀ x : Array Value, x = zv.cells ∨ (x = #[] ∧ len * j.size = 0) → ((Array.range (len * j.size)).map fun i => x[i % x.size]!) = (rep zv.cells.toList len).toArray := by
                    rintro x (rfl | ⟨rfl, h0⟩)
                    · rw [← hzs, zeros_eq]
                    · rw [← zeros_eq, hzs, h0]; simp
                  by_cases h0 : len * j.size = 0
                  · rw [if_pos h0]
                    simp only [Sem.run_bind, pure, Sem.run, Result.andThen_ok]
                    rw [hz' #[] (.inr ⟨rfl, h0⟩), hfill]
                    rfl
                  · rw [if_neg h0]
                    simp only [Sem.run_bind, pure, Sem.run, Result.andThen_ok, hzrun]
                    rw [hz' zv.cells (.inl rfl), hfill]
                    rfl
                · cases hf
            · cases hf
          · cases hf
        · cases hf
      · cases hf
    · cases hf
  exact key o.op rfl hf

end Go.Sx
