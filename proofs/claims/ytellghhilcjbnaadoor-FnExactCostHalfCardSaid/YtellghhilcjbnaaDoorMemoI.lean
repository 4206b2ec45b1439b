/-
  A map from sets to numbers in which what is kept is right.
-/
import Derived.Test.YtellghhilcjbnaaDoorChooser
namespace Go.Proofs.YtellghhilcjbnaaDoor
set_option linter.unusedVariables false
set_option linter.unusedSimpArgs false
open Go.RowKit
open Go.Maps (Keyed)

def klI (s : Nat) : Lit := .int .i64 (s : Int)
theorem wf_i64 {x : Int} (h1 : -9223372036854775808 ≤ x) (h2 : x ≤ 9223372036854775807) : (Lit.int .i64 x).wf = true := by
  have e1 : IntKind.i64.min = -9223372036854775808 := by decide
  have e2 : IntKind.i64.max = 9223372036854775807 := by decide
  show (decide (IntKind.i64.min ≤ x) && decide (x ≤ IntKind.i64.max)) = true
  rw [e1, e2, Bool.and_eq_true, decide_eq_true_iff, decide_eq_true_iff]
  exact ⟨h1, h2⟩
theorem keyOf_setI {s : Nat} (hs : s < 256) : keyOf Tryd.prog 75 (.int .i64 (s : Int)) = some (klI s) := by
  have hw := wf_i64 (x := (s : Int)) (by omega) (by omega)
  unfold keyOf mapKey
  simp [Tryd.underlying75, hw, klI]
/-- Block B is a map of at most m entries, from sets to their numbers. -/
def MemoI (w : World) (B : Nat) (g : Nat → Int) (m : Nat) : Prop :=
  ∃ D : DataW Unit, w.ownsMap Tryd.prog 75 (plainElem Tryd.prog 3) B m D ∧ Maps.IsMap D ∧ ∀ s, s < 256 → Maps.has D (klI s) = true → ∀ zd, D.atKey (klI s) zd = .lit (.int .i64 (g s))
theorem klI_ne {s t : Nat} (h : s ≠ t) : klI s ≠ klI t := by
  intro e
  simp only [klI, Lit.int.injEq, true_and] at e
  omega
theorem MemoI.kept {w w' : World} {B m : Nat} {g : Nat → Int} {row : Option Nat} (h : MemoI w B g m) (hg : w.grownBy w' row) (hne : some B ≠ row) : MemoI w' B g m := by
  obtain ⟨D, ho, hm, hs⟩ := h
  exact ⟨D, ho.kept hg hne, hm, hs⟩
theorem MemoI.below {w w' : World} {B m : Nat} {g : Nat → Int} (h : MemoI w B g m) (hb : Below w.heap.size w w') : MemoI w' B g m := h.kept (row := none) ⟨hb.os, hb.tape, hb.output, hb.size, fun k hk _ => hb.block k hk⟩ (by simp)
theorem MemoI.mono {w : World} {B m m' : Nat} {g : Nat → Int} (h : MemoI w B g m) (hm : m ≤ m') : MemoI w B g m' := by
  obtain ⟨D, ho, h2, hs⟩ := h
  exact ⟨D, ho.mono hm, h2, hs⟩
theorem MemoI.lt {w : World} {B m : Nat} {g : Nat → Int} (h : MemoI w B g m) : B < w.heap.size := by
  obtain ⟨D, ho, _⟩ := h
  exact ho.lt
theorem MemoI.made (w : World) (g : Nat → Int) : MemoI (w.alloc (.map #[] 0)) w.heap.size g 0 :=
  ⟨.map [], World.ownsMap_made w _ _ _, Maps.isMap_empty, fun s _ h => by cases h⟩
theorem MemoI.put {w : World} {B m s : Nat} {g : Nat → Int} {D : DataW Unit} (ho : w.ownsMap Tryd.prog 75 (plainElem Tryd.prog 3) B (m + 1) (D.put (klI s) (.lit (.int .i64 (g s))))) (hm : Maps.IsMap D)
    (hs : ∀ t, t < 256 → Maps.has D (klI t) = true → ∀ zd, D.atKey (klI t) zd = .lit (.int .i64 (g t))) : MemoI w B g (m + 1) := by
  refine ⟨_, ho, hm.put _ _, fun t ht hh zd => ?_⟩
  by_cases e : t = s
  · subst e
    exact Maps.atKey_put_same hm (by simp [klI, WideAt.IsKeyLit]) _ _
  · rw [Maps.has_put_other (klI_ne e)] at hh
    rw [Maps.atKey_put_other (klI_ne e)]
    exact hs t ht hh zd
theorem Tab.withinI {w w' : World} {B : Nat} (h : Tab w) (hw : Within B (B + 1) w w') (hB : 1 < B) : Tab w' := fun i x hx =>
  (World.cell?_of_block (a := ⟨1, i, none⟩) (hw.block _ h.lt (.inl hB))).trans (h i x hx)

/-- What a call of least leaves. -/
def LPost (w : World) (B : Nat) (g : Nat → Int) (s m : Nat) (e : Ending) (w' : World) : Prop :=
  e = .returned (.int .i64 (g s)) ∧ MemoI w' B g m ∧ Within B (B + 1) w w'
/-- How many entries may be made. -/
def cntI (s : Nat) : Nat := 10 ^ (bitsOf s).length

end Go.Proofs.YtellghhilcjbnaaDoor
