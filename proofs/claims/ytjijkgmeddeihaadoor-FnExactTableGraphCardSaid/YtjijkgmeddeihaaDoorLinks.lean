/-
  GRAPHS AS LISTS, and links in them: plain functions, no program.
-/
import Derived.Test.YtjijkgmeddeihaaDoorBase
namespace Go.Proofs.YtjijkgmeddeihaaDoor
set_option linter.unusedVariables false
set_option linter.unusedSimpArgs false
open Go.RowKit

/-- One set of a graph turned. -/
def upd (f : Nat → Nat) (i x : Nat) : Nat → Nat := fun j => if j = i then x else f j
theorem upd_same (f : Nat → Nat) (i x : Nat) : upd f i x i = x := by simp [upd]
theorem upd_other (f : Nat → Nat) {i j : Nat} (x : Nat) (h : j ≠ i) : upd f i x j = f j := by simp [upd, h]
theorem upd_step {f g : Nat → Nat} {k x : Nat} (h1 : g k = x) (h2 : ∀ i, i ≠ k → g i = f i) : upd f k x = g := by
  funext i; unfold upd; split
  · rename_i e; rw [e, h1]
  · rename_i e; exact (h2 i e).symm
theorem upd_lt {f : Nat → Nat} {i x : Nat} (hf : ∀ i, f i < 256) (hx : x < 256) : ∀ j, upd f i x j < 256 := by
  intro j; unfold upd; split
  · exact hx
  · exact hf j

/-- What 'with' does to a set keeps it below 256. -/
theorem with_lt {s v : Nat} (hs : s < 256) (hv : v < 8) : s ||| 2 ^ v < 256 := by
  have h : 2 ^ v < 2 ^ 8 := Nat.pow_lt_pow_right (by decide) hv
  exact Nat.or_lt_two_pow (n := 8) hs h

/-- The two nodes linked. -/
def lnk (f : Nat → Nat) (a b : Nat) : Nat → Nat := upd (upd f a (f a ||| 2 ^ b)) b (upd f a (f a ||| 2 ^ b) b ||| 2 ^ a)
theorem lnk_lt {f : Nat → Nat} {a b : Nat} (ha : a < 8) (hb : b < 8) (hf : ∀ i, f i < 256) : ∀ i, lnk f a b i < 256 :=
  upd_lt (upd_lt hf (with_lt (hf _) hb)) (with_lt (upd_lt hf (with_lt (hf _) hb) _) ha)

theorem lnk_ne (f : Nat → Nat) {a b : Nat} (h : a ≠ b) : lnk f a b = upd (upd f a (f a ||| 2 ^ b)) b (f b ||| 2 ^ a) := by
  unfold lnk; rw [upd_other f _ (Ne.symm h)]

/-- The way, so many links of it. -/
def wayTo : Nat → Nat → Nat
  | 0 => fun _ => 0
  | k + 1 => lnk (wayTo k) k (k + 1)
theorem wayTo_lt : ∀ (k : Nat), k < 8 → ∀ i, wayTo k i < 256
  | 0, _ => fun _ => by simp [wayTo]
  | k + 1, h => lnk_lt (by omega) (by omega) (wayTo_lt k (by omega))

/-- The graph as a list of numbers. -/
def glist (n : Nat) (f : Nat → Nat) : List Int := (List.range n).map fun (i : Nat) => (f i : Int)
theorem glist_len (n : Nat) (f : Nat → Nat) : (glist n f).length = n := by simp [glist]
theorem glist_at (n : Nat) (f : Nat → Nat) (i : Nat) (h : i < (glist n f).length) : (glist n f)[i] = (f i : Int) := by simp [glist]
theorem glist_zero (n : Nat) : vals (glist n (wayTo 0)) = List.replicate n (Value.int .i64 0) := by
  apply List.ext_getElem
  · simp [glist]
  · intro i h1 h2; simp [glist, wayTo]
theorem glist_cell (n : Nat) (f : Nat → Nat) (i : Nat) (h : i < n) : (vals (glist n f))[i]? = some (.int .i64 (f i : Int)) := by simp [glist, h]
theorem glist_set (n : Nat) (f : Nat → Nat) (i x : Nat) : (vals (glist n f)).set i (.int .i64 (x : Int)) = vals (glist n (upd f i x)) := by
  apply List.ext_getElem?
  intro j
  rw [List.getElem?_set]
  simp only [vals, glist, List.length_map, List.length_range, List.getElem?_map]
  by_cases e : i = j
  · subst e
    by_cases hi : i < n
    · simp [hi, upd]
    · simp [hi]
  · have : j ≠ i := fun h => e h.symm
    by_cases hj : j < n
    · simp [hj, upd, e, this]
    · simp [hj, e]
theorem glist_succ (k : Nat) (f : Nat → Nat) : vals (glist (k + 1) f) = vals (glist k f) ++ [Value.int .i64 (f k : Int)] := by simp [glist, List.range_succ]
theorem glist_congr {n : Nat} {f g : Nat → Nat} (h : ∀ i, i < n → f i = g i) : glist n f = glist n g := by
  apply List.ext_getElem
  · simp [glist]
  · intro i h1 h2
    simp [glist] at h1 ⊢
    rw [h i h1]

end Go.Proofs.YtjijkgmeddeihaaDoor
