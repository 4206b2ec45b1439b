/-
  GRAPHS OUT OF EDGES: plain functions; the specification's GraphOf.
-/
import Derived.Test.YtnmemefkeehjjaaDoorRowsPush
import Derived.StillTailTactics
import Derived.Deep.QuietTactic
import Derived.BigQuiet
import Derived.Deep.RegionLaw
import Derived.Outline
import Derived.Test.YtnmemefkeehjjaaDoorGives
import Derived.Test.YtnmemefkeehjjaaDoorCore1
namespace Go.Proofs.YtnmemefkeehjjaaDoor
set_option linter.unusedVariables false
set_option linter.unusedSimpArgs false
open Go.RowKit

/-- Whether a list is an edge among n nodes. -/
def goodE (n : Nat) (e : List Int) : Bool := decide (e.length = 2 ∧ (0 ≤ e.getD 0 0 ∧ e.getD 0 0 < n) ∧ (0 ≤ e.getD 1 0 ∧ e.getD 1 0 < n) ∧ e.getD 0 0 ≠ e.getD 1 0)
/-- What the first edges link. -/
def linkTo (xss : List (List Int)) : Nat → Nat → Nat
  | 0 => fun _ => 0
  | k + 1 => lnk (linkTo xss k) ((xss.getD k []).getD 0 0).toNat ((xss.getD k []).getD 1 0).toNat
def goodTo (n : Nat) (xss : List (List Int)) (k : Nat) : Bool := (xss.take k).all (goodE n)
theorem goodTo_succ {n : Nat} {xss : List (List Int)} {k : Nat} (h : k < xss.length) : goodTo n xss (k + 1) = (goodTo n xss k && goodE n xss[k]) := by
  unfold goodTo; rw [List.take_succ_eq_append_getElem h, List.all_append]; simp
theorem goodTo_at {n : Nat} {xss : List (List Int)} {k : Nat} (h : k < xss.length) (hb : goodE n xss[k] = false) : goodTo n xss xss.length = false := by
  unfold goodTo
  rw [List.take_length, Bool.eq_false_iff]
  intro hall
  rw [List.all_eq_true.1 hall _ (List.getElem_mem h)] at hb
  cases hb
theorem linkTo_lt {n : Nat} (hn : n ≤ 8) {xss : List (List Int)} : ∀ k, k ≤ xss.length → goodTo n xss k = true → ∀ i, linkTo xss k i < 256
  | 0, _, _ => fun _ => by simp [linkTo]
  | k + 1, hk, hg => by
    rw [goodTo_succ (by omega), Bool.and_eq_true] at hg
    have ih := linkTo_lt hn k (by omega) hg.1
    have hge := hg.2
    unfold goodE at hge
    rw [decide_eq_true_eq] at hge
    have e : xss.getD k [] = xss[k] := by simp [List.getD, List.getElem?_eq_getElem (show k < xss.length by omega)]
    unfold linkTo
    rw [e]
    exact lnk_lt (by omega) (by omega) ih
theorem linkTo_succ {xss : List (List Int)} {k : Nat} (h : k < xss.length) {a b : Nat} (ha : xss[k].getD 0 0 = (a : Int)) (hb : xss[k].getD 1 0 = (b : Int)) : linkTo xss (k + 1) = lnk (linkTo xss k) a b := by
  have e : xss.getD k [] = xss[k] := by simp [List.getD, List.getElem?_eq_getElem h]
  show lnk _ _ _ = _
  rw [e, ha, hb]; rfl

/-- Whether the edges make a graph of n nodes, and it. -/
def ofOk (n : Int) (xss : List (List Int)) : Bool := decide (1 ≤ n ∧ n ≤ 8) && goodTo n.toNat xss xss.length
def ofOf (n : Int) (xss : List (List Int)) : List Int := if ofOk n xss = true then glist n.toNat (linkTo xss xss.length) else []
theorem ofOf_len (n : Int) (xss : List (List Int)) : (ofOf n xss).length ≤ 1048576 := by
  unfold ofOf
  split
  · rename_i h
    unfold ofOk at h
    rw [Bool.and_eq_true, decide_eq_true_eq] at h
    rw [glist_len]; omega
  · simp

theorem pair_of {e : List Int} (h : e.length = 2) : ∃ a b, e = [a, b] := by
  match e, h with
  | [a, b], _ => exact ⟨a, b, rfl⟩

theorem l6In_r (n low high : Int) (r : Bool) (h : decide (low ≤ n ∧ n ≤ high) = r) (w : World) :
    Calls Tryd.prog 63 #[.int .i64 n, .int .i64 low, .int .i64 high] w fun e w' => e = .returned (.bool r) ∧ w = w' :=
  (l6In_any n low high w).mono fun e w' h' => ⟨by rw [← h]; exact h'.1, h'.2⟩

end Go.Proofs.YtnmemefkeehjjaaDoor
