/- REGIONS WHOSE ORDER OF EVALUATION IS DRAWN: the run in the order of the list, and what it says of every order. -/
import Derived.Test.YtnedannoknflnaaDoorSxDraw
/-! REGIONS WHOSE ORDER OF EVALUATION IS DRAWN: the run in the order of the list, and what it says of every order. -/
namespace Go.Sx
open Go.RowKit

theorem restrL_cons (tm : Tm) (t : Nat) (l : List Nat) : restrL tm (t :: l) = (match tm.look t with | some v => (t, v) :: restrL tm l | none => restrL tm l) := rfl

theorem restr_congr {tm tm' : Tm} : ∀ (l : List Nat), (∀ t ∈ l, tm.look t = tm'.look t) → restr tm l = restr tm' l := by
  intro l h
  have : restrL tm l = restrL tm' l := by
    induction l with
    | nil => rfl
    | cons t l ih =>
      rw [restrL_cons, restrL_cons, h t List.mem_cons_self, ih fun x hx => h x (List.mem_cons_of_mem _ hx)]
  unfold restr; rw [this]

theorem restrL_find {tm : Tm} : ∀ (l : List Nat) (t : Nat) (v : AV), lFind (restrL tm l) t = some v → t ∈ l ∧ tm.look t = some v
  | [], t, v, h => by cases h
  | u :: l, t, v, h => by
    rw [restrL_cons] at h
    cases hu : tm.look u with
    | none =>
      rw [hu] at h
      obtain ⟨h1, h2⟩ := restrL_find l t v h
      exact ⟨List.mem_cons_of_mem _ h1, h2⟩
    | some x =>
      rw [hu] at h
      simp only [lFind_cons] at h
      by_cases c : u = t
      · subst c; rw [beq_t.2 rfl] at h; cases h; exact ⟨List.mem_cons_self, hu⟩
      · rw [beq_f.2 c] at h
        obtain ⟨h1, h2⟩ := restrL_find l t v h
        exact ⟨List.mem_cons_of_mem _ h1, h2⟩

theorem restr_ok {n : Nat} {keep : List Nat} {E : Env} {tm : Tm} {arr : Array Value} {l : List Nat} (hs : n ≤ arr.size) (h : ∀ t ∈ l, ∀ v, tm.look t = some v → good E arr t v) : TmOk n keep E (restr tm l) arr :=
  ⟨hs, fun i a e => h i (restrL_find l i a e).1 a (restrL_find l i a e).2, ⟨fun i a e => by rw [show (restr tm l).tree = .nil from rfl, PT.get_nil] at e; cases e⟩⟩

theorem look_put_ne {tm : Tm} {d t : Nat} (h : d ≠ t) (keep : Bool) (v : AV) : (tm.put d keep v).look t = tm.look t := by
  unfold Tm.look Tm.put
  simp only [lFind_cons, beq_f.2 h, cond_false]
  cases lFind tm.loc t with
  | some x => rfl
  | none =>
    cases keep with
    | true => simp only [cond_true, PT.get_set]; rw [if_neg (Ne.symm h)]
    | false => rfl
theorem look_put (tm : Tm) (d : Nat) (keep : Bool) (v : AV) : (tm.put d keep v).look d = some v := by
  unfold Tm.look Tm.put
  simp only [lFind_cons, beq_t.2 rfl, cond_true]
theorem look_setDst_ne {tm : Tm} {dst : Option Nat} {t : Nat} (h : dst ≠ some t) (keep : Bool) (v : AV) : (setDst tm dst keep v).look t = tm.look t := by
  cases dst with
  | none => rfl
  | some d => exact look_put_ne (fun e => h (by rw [e])) keep v

theorem runD_cons (cx : Cx) (o : DI) (l : List DI) (tm : Tm) (h : Heap) (hs : List Heap) (vs : List (Tm × AV)) : runD cx (o :: l) tm h hs vs =
    (runC cx (restr tm o.reads) h o.ci).bind fun r => fork r.1 fun v => runD cx l (setDst tm o.ci.dst o.ci.keep v) r.2 (cond o.eff (h :: hs) hs) ((restr tm o.reads, r.1) :: vs) := rfl

/-- one way through a run -/
def RunsD (ρ : Rho) (cx : Cx) : List DI → Tm → Heap → List Heap → List (Tm × AV) → Tm × List Heap × List (Tm × AV) → Prop
  | [], tm, h, hs, vs, R => R = (tm, h :: hs, vs)
  | o :: l, tm, h, hs, vs, R => ∃ r v, (runC cx (restr tm o.reads) h o.ci).Holds ρ (fun x => x = r) ∧ Same ρ v r.1 ∧
      RunsD ρ cx l (setDst tm o.ci.dst o.ci.keep v) r.2 (cond o.eff (h :: hs) hs) ((restr tm o.reads, r.1) :: vs) R

theorem T.holds_one {α : Type} {ρ : Rho} {t : T α} {Q : α → Prop} (h : t.Holds ρ Q) : ∃ a, t.Holds ρ (fun x => x = a) ∧ Q a := by
  induction t with
  | ret a => exact ⟨a, rfl, h⟩
  | br c t f iht ihf =>
    simp only [T.Holds] at h
    split at h
    · rename_i hc
      obtain ⟨a, h1, h2⟩ := iht h
      exact ⟨a, by simp only [T.Holds]; rw [if_pos hc]; exact h1, h2⟩
    · rename_i hc
      obtain ⟨a, h1, h2⟩ := ihf h
      exact ⟨a, by simp only [T.Holds]; rw [if_neg hc]; exact h1, h2⟩
  | fail w => exact h.elim

theorem runD_runs {ρ : Rho} {cx : Cx} {Q : Tm × List Heap × List (Tm × AV) → Prop} : ∀ (l : List DI) (tm : Tm) (h : Heap) (hs : List Heap) (vs : List (Tm × AV)), (runD cx l tm h hs vs).Holds ρ Q → ∃ R, RunsD ρ cx l tm h hs vs R ∧ Q R
  | [], tm, h, hs, vs, k => ⟨_, rfl, k⟩
  | o :: l, tm, h, hs, vs, k => by
    rw [runD_cons, T.holds_bind] at k
    obtain ⟨r, h1, h2⟩ := T.holds_one k
    obtain ⟨v, h3, h4⟩ := holds_fork h2
    obtain ⟨R, h5, h6⟩ := runD_runs l _ _ _ _ h3
    exact ⟨R, ⟨r, v, h1, h4, h5⟩, h6⟩

def Once (l : List DI) : Prop := ∀ (i j : Nat) (d d' : DI) (t : Nat), i < j → l[i]? = some d → l[j]? = some d' → d.ci.dst = some t → d'.ci.dst ≠ some t
theorem Once.tail {o : DI} {l : List DI} (h : Once (o :: l)) : Once l := fun i j d d' t hij h1 h2 => h (i + 1) (j + 1) d d' t (by omega) (by simpa using h1) (by simpa using h2)
theorem Once.head {o : DI} {l : List DI} (h : Once (o :: l)) {t : Nat} (ht : o.ci.dst = some t) : ∀ d ∈ l, d.ci.dst ≠ some t := fun d hd => by
  obtain ⟨j, hj⟩ := List.getElem?_of_mem hd
  exact h 0 (j + 1) o d t (by omega) rfl (by simpa using hj) ht

def QuietD (d : DI) : Prop := d.eff = false → ∀ cx tm h ρ r, (runC cx tm h d.ci).Holds ρ (fun x => x = r) → r.2 = h

/-- what is said of the i-th operation of the list -/
def AtOk (ρ : Rho) (cx : Cx) (l : List DI) (tm tmF : Tm) (HS : List Heap) (V : Option (Tm × AV)) (i : Nat) (d : DI) : Prop :=
  ∃ tmi H r v, (runC cx (restr tmi d.reads) H d.ci).Holds ρ (fun x => x = r) ∧ Same ρ v r.1 ∧ (d.eff = true → HS[d.lo]? = some H ∧ HS[d.lo + 1]? = some r.2) ∧
      (∀ t, (∀ (j : Nat) (d' : DI), i ≤ j → l[j]? = some d' → d'.ci.dst ≠ some t) → tmF.look t = tmi.look t) ∧ (∀ t, d.ci.dst = some t → tmF.look t = some v) ∧
      (∀ t, (∀ (j : Nat) (d' : DI), j < i → l[j]? = some d' → d'.ci.dst ≠ some t) → tmi.look t = tm.look t) ∧ V = some (restr tmi d.reads, r.1)

/-- THE RUN IN THE ORDER OF THE LIST. -/
theorem runD_ok {ρ : Rho} {cx : Cx} : ∀ (l : List DI) (tm : Tm) (h : Heap) (hs : List Heap) (vs : List (Tm × AV)) (tmF : Tm) (hsF : List Heap) (vsF : List (Tm × AV)), RunsD ρ cx l tm h hs vs (tmF, hsF, vsF) → numbered hs.length l = true → (∀ d ∈ l, QuietD d) → Once l →
    (∀ (j : Nat) (x : Heap), (hs.reverse ++ [h])[j]? = some x → hsF.reverse[j]? = some x) ∧ hsF.length = hs.length + 1 + effCount l ∧ (∀ t, (∀ d ∈ l, d.ci.dst ≠ some t) → tmF.look t = tm.look t) ∧
    (∀ (j : Nat) (x : Tm × AV), vs.reverse[j]? = some x → vsF.reverse[j]? = some x) ∧ (∀ (i : Nat) (d : DI), l[i]? = some d → AtOk ρ cx l tm tmF hsF.reverse (vsF.reverse[vs.length + i]?) i d)
  | [], tm, h, hs, vs, tmF, hsF, vsF, e, _, _, _ => by
    have e' : (tmF, hsF, vsF) = (tm, h :: hs, vs) := e
    cases e'
    refine ⟨fun j x e => by simpa using e, by simp [effCount], fun t _ => rfl, fun j x h => h, fun i d e => by simp at e⟩
  | o :: l, tm, h, hs, vs, tmF, hsF, vsF, e, hn, hq, ho => by
    obtain ⟨r, v, hr, hsame, e⟩ := e
    · have htl := fun d hd => hq d (List.mem_cons_of_mem _ hd)
      have look_tail : ∀ t, (∀ d ∈ o :: l, d.ci.dst ≠ some t) → (∀ d ∈ l, d.ci.dst ≠ some t) := fun t hh d hd => hh d (List.mem_cons_of_mem _ hd)
      have fin : ∀ (hs' : List Heap), (∀ (j : Nat) (x : Heap), (hs'.reverse ++ [r.2])[j]? = some x → hsF.reverse[j]? = some x) → (∀ t, (∀ d ∈ l, d.ci.dst ≠ some t) → tmF.look t = (setDst tm o.ci.dst o.ci.keep v).look t) →
          (∀ (j : Nat) (x : Tm × AV), ((restr tm o.reads, r.1) :: vs).reverse[j]? = some x → vsF.reverse[j]? = some x) →
          (∀ (i : Nat) (d : DI), l[i]? = some d → AtOk ρ cx l (setDst tm o.ci.dst o.ci.keep v) tmF hsF.reverse (vsF.reverse[((restr tm o.reads, r.1) :: vs).length + i]?) i d) →
          (o.eff = true → hsF.reverse[o.lo]? = some h ∧ hsF.reverse[o.lo + 1]? = some r.2) →
          (∀ t, (∀ d ∈ o :: l, d.ci.dst ≠ some t) → tmF.look t = tm.look t) ∧ (∀ (j : Nat) (x : Tm × AV), vs.reverse[j]? = some x → vsF.reverse[j]? = some x) ∧
          (∀ (i : Nat) (d : DI), (o :: l)[i]? = some d → AtOk ρ cx (o :: l) tm tmF hsF.reverse (vsF.reverse[vs.length + i]?) i d) := by
        intro hs' hA hC hV hD hE
        have hC' : ∀ t, (∀ d ∈ o :: l, d.ci.dst ≠ some t) → tmF.look t = tm.look t := fun t ht => by
          rw [hC t (look_tail t ht), look_setDst_ne (ht o List.mem_cons_self)]
        refine ⟨hC', fun j x hx => hV j x ?_, fun i d hd => ?_⟩
        · rw [List.reverse_cons, List.getElem?_append_left (by have := (List.getElem?_eq_some_iff.1 hx).1; exact this)]
          exact hx
        cases i with
        | zero =>
          simp at hd; subst hd
          refine ⟨tm, h, r, v, hr, hsame, hE, fun t ht => hC' t fun d hd => ?_, fun t ht => ?_, fun t _ => rfl, ?_⟩
          · obtain ⟨j, hj⟩ := List.getElem?_of_mem hd
            exact ht j d (Nat.zero_le _) hj
          · rw [hC t (ho.head ht), ht]
            exact look_put _ _ _ _
          · exact hV _ _ (by simp)
        | succ i =>
          simp at hd
          obtain ⟨tmi, H, r', v', h1, hs1, h2, h3, h4, h5, h6⟩ := hD i d hd
          refine ⟨tmi, H, r', v', h1, hs1, h2, fun t ht => h3 t fun j d' hj hd' => ht (j + 1) d' (by omega) (by simpa using hd'), h4, fun t ht => ?_, ?_⟩
          · rw [h5 t fun j d' hj hd' => ht (j + 1) d' (by omega) (by simpa using hd'), look_setDst_ne (ht 0 o (by omega) rfl)]
          · rw [← h6]
            simp only [List.length_cons]
            rw [show vs.length + 1 + i = vs.length + (i + 1) by omega]
      simp only [numbered] at hn
      cases he : o.eff with
      | true =>
        rw [he, cond_true] at e hn
        simp only [Bool.and_eq_true] at hn
        obtain ⟨hA, hB, hC, hV, hD⟩ := runD_ok l _ _ (h :: hs) _ tmF hsF vsF e (by simpa using hn.2) htl ho.tail
        have hlo := beq_t.1 hn.1
        have hA0 : hsF.reverse[hs.length]? = some h := hA _ _ (by simp)
        have hA1 : hsF.reverse[hs.length + 1]? = some r.2 := hA _ _ (by simp)
        obtain ⟨f1, f2, f3⟩ := fin (h :: hs) hA hC hV hD (fun _ => by rw [hlo]; exact ⟨hA0, hA1⟩)
        refine ⟨fun j x hx => hA j x ?_, ?_, f1, f2, f3⟩
        · simp only [List.reverse_cons]
          rw [List.getElem?_append_left (by have := (List.getElem?_eq_some_iff.1 hx).1; exact this)]
          exact hx
        · rw [hB]; simp [effCount, he]; omega
      | false =>
        rw [he, cond_false] at e hn
        have hqr := hq o List.mem_cons_self he _ _ _ _ _ hr
        obtain ⟨hA, hB, hC, hV, hD⟩ := runD_ok l _ _ hs _ tmF hsF vsF e hn htl ho.tail
        obtain ⟨f1, f2, f3⟩ := fin hs hA hC hV hD (fun h => by rw [he] at h; cases h)
        rw [hqr] at hA
        refine ⟨hA, ?_, f1, f2, f3⟩
        rw [hB]; simp [effCount, he]

/-! ## Slots, some of them turned -/
structure TmX (n : Nat) (keep : List Nat) (E : Env) (tm : Tm) (arr : Array Value) (S : Nat → Prop) : Prop where
  size : n ≤ arr.size
  loc : ∀ i a, lFind tm.loc i = some a → ¬ S i → good E arr i a
  tree : ∀ i a, tm.tree.get i = some a → memN keep (some i) = true ∧ (¬ S i → good E arr i a)

theorem TmX.put {n : Nat} {keep : List Nat} {E : Env} {tm : Tm} {arr : Array Value} {S S' : Nat → Prop} (h : TmX n keep E tm arr S) {d : Nat} {a : AV} (hv : good E arr d a) (hS : ∀ i, i ≠ d → S i → S' i) :
    TmX n keep E (tm.put d (memN keep (some d)) a) arr S' := by
  have out : ∀ i, i ≠ d → ¬ S' i → ¬ S i := fun i hi hs h => hs (hS i hi h)
  refine ⟨h.size, fun i b e hs => ?_, fun i b e => ?_⟩
  · simp only [Tm.put, lFind_cons] at e
    by_cases c : d = i
    · subst c; rw [beq_t.2 rfl] at e; cases e; exact hv
    · rw [beq_f.2 c] at e; exact h.loc i b e (out i (Ne.symm c) hs)
  · simp only [Tm.put] at e
    cases hk : memN keep (some d) with
    | true =>
      rw [hk, cond_true, PT.get_set] at e
      by_cases c : i = d
      · subst c; rw [if_pos rfl] at e; cases e; exact ⟨hk, fun _ => hv⟩
      · rw [if_neg c] at e; exact ⟨(h.tree i b e).1, fun hs => (h.tree i b e).2 (out i c hs)⟩
    | false =>
      rw [hk, cond_false] at e
      have c : i ≠ d := by rintro rfl; rw [(h.tree i b e).1] at hk; cases hk
      exact ⟨(h.tree i b e).1, fun hs => (h.tree i b e).2 (out i c hs)⟩

theorem runD_tm {ρ : Rho} {cx : Cx} {n : Nat} {keep : List Nat} {E : Env} {arr : Array Value} : ∀ (l : List DI) (tm : Tm) (h : Heap) (hs : List Heap) (vs : List (Tm × AV)) (tmF : Tm) (hsF : List Heap) (vsF : List (Tm × AV)), RunsD ρ cx l tm h hs vs (tmF, hsF, vsF) → numbered hs.length l = true → (∀ d ∈ l, QuietD d) → Once l →
    (∀ d ∈ l, d.ci.keep = memN keep d.ci.dst) → (∀ d ∈ l, ∀ t v, d.ci.dst = some t → tmF.look t = some v → good E arr t v) → TmX n keep E tm arr (fun t => ∃ d ∈ l, d.ci.dst = some t) → TmOk n keep E tmF arr
  | [], tm, h, hs, vs, tmF, hsF, vsF, e, _, _, _, _, _, X => by
    have e' : (tmF, hsF, vsF) = (tm, h :: hs, vs) := e
    cases e'
    exact ⟨X.size, fun i a e => X.loc i a e (by simp), ⟨fun i a e => ⟨(X.tree i a e).1, (X.tree i a e).2 (by simp)⟩⟩⟩
  | o :: l, tm, h, hs, vs, tmF, hsF, vsF, e, hn, hq, ho, hk, hg, X => by
    obtain ⟨r, v, hr, hsame, e⟩ := e
    · have _keep := hr
      have hn' : numbered (cond o.eff (h :: hs) hs).length l = true := by
        simp only [numbered] at hn
        cases he : o.eff with
        | true => rw [he, cond_true] at hn; simp only [Bool.and_eq_true] at hn; simpa using hn.2
        | false => rw [he, cond_false] at hn; exact hn
      refine runD_tm l _ _ _ _ tmF hsF vsF e hn' (fun d hd => hq d (List.mem_cons_of_mem _ hd)) ho.tail (fun d hd => hk d (List.mem_cons_of_mem _ hd)) (fun d hd => hg d (List.mem_cons_of_mem _ hd)) ?_
      cases hdst : o.ci.dst with
      | none =>
        refine ⟨X.size, fun i a e hs => X.loc i a e ?_, fun i a e => ⟨(X.tree i a e).1, fun hs => (X.tree i a e).2 ?_⟩⟩
        all_goals
          rintro ⟨d, hd, hd2⟩
          rcases List.mem_cons.1 hd with rfl | hd
          · rw [hdst] at hd2; cases hd2
          · exact hs ⟨d, hd, hd2⟩
      | some t =>
        have hkk := hk o List.mem_cons_self
        rw [hdst] at hkk
        rw [hkk]
        have hfl : tmF.look t = some v := by
          obtain ⟨_, _, hC, _⟩ := runD_ok l _ _ _ _ tmF hsF vsF e hn' (fun d hd => hq d (List.mem_cons_of_mem _ hd)) ho.tail
          rw [hC t (ho.head hdst), hdst]
          exact look_put _ _ _ _
        refine X.put (hg o List.mem_cons_self t v hdst hfl) fun i hi ⟨d, hd, hd2⟩ => ?_
        rcases List.mem_cons.1 hd with rfl | hd
        · rw [hdst] at hd2; cases hd2; exact absurd rfl hi
        · exact ⟨d, hd, hd2⟩

end Go.Sx
