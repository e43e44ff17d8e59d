/- ORDERS THAT NUMBERS CHOOSE, as they are said: reels by numbers that have names. -/
import Derived.Test.YtanhchkdglglhaaDoorSpSxChoose
import Derived.Test.YtanhchkdglglhaaDoorSpSxName
import Derived.Test.YtanhchkdglglhaaDoorSpSxCSpecK
/-! FILMS: what is so of a valid one. -/
namespace Go.Sx
open Go.RowKit Go.Proofs
set_option maxRecDepth 100000
noncomputable def le2 (a b : IE) : BE := .cmp .leq a b
noncomputable def reelC (b : Nat) : List BE :=
  [le2 (.lit 0) (.var b), le2 (.var b) (.var (b + 1)), le2 (.var (b + 1)) (.lit 99), le2 (.lit 0) (.var (b + 2)), le2 (.var (b + 2)) (.var (b + 3)), le2 (.var (b + 3)) (.lit 99), le2 (.lit 1) (.var (b + 4)), le2 (.var (b + 4)) (.var (b + 5)), le2 (.var (b + 5)) (.lit 1200), le2 (.var b) (.var (b + 3))]
noncomputable def restC : List BE := [le2 (.lit 1) (.var 0), le2 (.var 0) (.var 1), le2 (.var 1) (.lit 20), le2 (.lit 0) (.var 2), le2 (.var 2) (.var 3), le2 (.var 3) (.lit 50), le2 (.lit 1) (.var 4), le2 (.var 4) (.lit 6000)]
noncomputable def csUp : Nat → Nat → List BE
  | 0, _ => restC
  | n + 1, b => reelC b ++ csUp n (b + 6)
noncomputable def csL (L : Nat) : List BE := csUp L 10
noncomputable def okErr (vs : List AV) (e : Int) : AV := .tup (vs ++ [li e])

noncomputable def filmV (L : Nat) : AV := .agg [.sliceX 1001 6 0 L, vi 0, vi 1, vi 2, vi 3, vi 4]
noncomputable def glV : List (Nat × List AV) := [(0, [li 1, li 20, li 0, li 50]), (1, [li 0, li 99, li 0, li 99, li 1, li 1200])]
noncomputable def viewV (L : Nat) : List (Nat × List AV) := (1001, cellsUp (6 * L) 10) :: glV
noncomputable def conjC : List BE → BE
  | [] => .lit true
  | c :: l => .and c (conjC l)
/-- whether a film is valid, asked of one that is not -/
noncomputable def notFilm (L : Nat) : CSpec := ⟨68, [filmV L], viewV L, 2000, [], .br (conjC (csL L)) (.fail 1) (.ret (.bool (.lit false)))⟩
noncomputable def ckI (L : Nat) : Bool := (notFilm L).chk (evalN tb0 60 false 68 (notFilm L).args (viewHeap 2000 (notFilm L).view))
end Go.Sx
/-! ORDERS THAT NUMBERS CHOOSE, as they are said: reels by numbers that have names. -/
namespace Go.Sx
open Go.RowKit Go.Proofs
set_option maxRecDepth 100000
noncomputable def pickE (i : Nat) : IE := .app 1000 (.lit (Int.ofNat i)) (.lit 0) (.lit 0)
/-- a number from 0 to n, by cases -/
noncomputable def caseT (v : Nat) : Nat → T AV
  | 0 => .ret (li 0)
  | m + 1 => .br (.cmp .leq (.lit (Int.ofNat (m + 1))) (.var v)) (.ret (li (Int.ofNat (m + 1)))) (caseT v m)
theorem caseT_leaf {ρ : Rho} {v : Nat} : ∀ n : Nat, 0 ≤ ρ.iv v → ρ.iv v ≤ n → (caseT v n).leaf ρ = some (li (ρ.iv v))
  | 0, h1, h2 => by
    have : ρ.iv v = 0 := by omega
    rw [this]; rfl
  | m + 1, h1, h2 => by
    simp only [caseT, T.leaf]
    split
    · rename_i hc
      rw [BE.t_leq, IE.den_lit, IE.den_var] at hc
      have : ρ.iv v = Int.ofNat (m + 1) := by simp only [Int.ofNat_eq_natCast] at hc ⊢; omega
      rw [this]
    · rename_i hc
      rw [BE.t_leq, IE.den_lit, IE.den_var] at hc
      exact caseT_leaf m h1 (by simp only [Int.ofNat_eq_natCast] at hc; omega)
noncomputable def turnS (i : Nat) : CSpec := ⟨48, [.int .i64 (pickE i), .int .i64 (.lit (Int.ofNat (i + 1)))], [], 2000, [], .ret (.int .i64 (.app 6 (pickE i) (.lit (Int.ofNat (i + 1))) (.lit 0)))⟩
noncomputable def upTo : Nat → List Nat
  | 0 => []
  | n + 1 => upTo n ++ [n]
theorem upTo_mem : ∀ (n j : Nat), j ∈ upTo n ↔ j < n
  | 0, j => by simp [upTo]
  | n + 1, j => by simp only [upTo, List.mem_append, List.mem_singleton, upTo_mem n j]; omega
noncomputable def turnsOrc (args : List AV) (h : Heap) (js : List Nat) : Option (T (AV × Heap)) :=
  @List.rec Nat (fun _ => Option (T (AV × Heap))) none (fun j _ ih => match (turnS j).orcY (caseT (100 + j) j) args h with
    | some t => some t
    | none => ih) js
noncomputable def orcSh (L : Nat) (f : FuncId) (args : List AV) (h : Heap) : Option (T (AV × Heap)) := cond (Nat.beq f 54) (pickOrc args h) (cond (Nat.beq f 48) (turnsOrc args h (upTo L)) none)
noncomputable def tbSh (L : Nat) : Tabs := ⟨Sx.Tryd.ft.get, lFind Sx.Tryd.rt, 2000, orcSh L⟩
noncomputable def shufArgs (L : Nat) : List AV := [li (Int.ofNat L), .sliceU 96]
noncomputable def shufRun (L : Nat) : T (AV × Heap) := evalN (tbSh L) 40 false 49 (shufArgs L) (viewO 2000 [])
/-- numbers that are known, each below n, no two the same -/
noncomputable def natA (a : AV) : Option Nat :=
  match a with
  | .int k (.lit (.ofNat n)) => cond (isI64 k) (some n) none
  | _ => none
theorem natA_some {a : AV} {n : Nat} (h : natA a = some n) : a = .int .i64 (.lit (Int.ofNat n)) := by
  unfold natA at h
  split at h
  · obtain ⟨h1, h2⟩ := cond_some h
    cases h2
    rw [isI64_eq h1]
  · cases h
noncomputable def litsA : List AV → Option (List Nat)
  | [] => some []
  | a :: l => (match natA a, litsA l with
    | some n, some m => some (n :: m)
    | _, _ => none)
noncomputable def memA (n : Nat) : List Nat → Bool
  | [] => false
  | m :: l => cond (Nat.beq n m) true (memA n l)
noncomputable def permA (L : Nat) : List Nat → Bool
  | [] => true
  | n :: l => and (Nat.ble (n + 1) L) (and (Bool.not (memA n l)) (permA L l))
/-- the order that is made, and where it lies -/
noncomputable def shufB (L : Nat) (r : AV × Heap) : Option (Nat × List AV) :=
  match r.1 with
  | .sliceX b s lo n => cond (and (Nat.beq s 1) (and (Nat.beq lo 0) (and (Nat.beq n L) (Nat.ble 2000 b)))) (match r.2.get b with
    | some (.cells cs el own ext) => cond (and own (and ext (and (Nat.beq el 3) (Nat.beq (lLen cs) L)))) (some (b, cs)) none
    | _ => none) none
  | _ => none
noncomputable def shufQ (L : Nat) (_ : Kn) (r : AV × Heap) : Bool :=
  match shufB L r with
  | some q => (match litsA q.2 with
    | some l => permA L l
    | none => false)
  | none => false
noncomputable def turnBd (L : Nat) : List BE := (upTo L).flatMap fun i => [.cmp .leq (.lit 0) (.var (100 + i)), .cmp .leq (.var (100 + i)) (.lit (Int.ofNat i))]
noncomputable def shufCk (L : Nat) : Bool := allW [] (shufQ L) (shufRun L) (knOf [] (turnBd L))
/-- the numbers of an order, out of what the run ends with -/
noncomputable def orderOf (L : Nat) (ρ : Rho) : List Nat :=
  match (shufRun L).leaf ρ with
  | some r => (match shufB L r with
    | some q => (match litsA q.2 with
      | some l => l
      | none => [])
    | none => [])
  | none => []
end Go.Sx
