/-
  WHERE A FUNCTION RANGES OVER AN ITERATOR IN A LOOP: the marks that its rounds leave among its deferred calls, and what it owes on its way out.
-/
import Derived.Test.YtjijkgmeddeihaaDoorBase
import Derived.RangeFuncNested
import Derived.RangeFuncLeaves
namespace Go.Proofs.YtjijkgmeddeihaaDoor
set_option linter.unusedVariables false
set_option linter.unusedSimpArgs false
open Go.RowKit

/-- Each mark leads to a block of its own, from B on, that holds no deferred call. -/
def Marks (B : Nat) (ds : List Deferred) (W : World) : Prop :=
  ∃ Ds : List Nat, ds = Ds.map (fun D => { target := .collected D, args := #[] }) ∧ Ds.Nodup ∧ ∀ D ∈ Ds, B ≤ D ∧ W.heap[D]? = some (.deferred (some []))

theorem Marks.nil (B : Nat) (W : World) : Marks B [] W := ⟨[], rfl, List.nodup_nil, fun _ h => by cases h⟩

theorem Marks.below {B : Nat} {ds : List Deferred} {W W' : World} (h : Marks B ds W) (hb : Below W.heap.size W W') : Marks B ds W' := by
  obtain ⟨Ds, h1, h2, h3⟩ := h
  exact ⟨Ds, h1, h2, fun D hD => ⟨(h3 D hD).1, (hb.block D (Array.getElem?_eq_some_iff.1 (h3 D hD).2).1).trans (h3 D hD).2⟩⟩

theorem Marks.other {B : Nat} {ds : List Deferred} {W W' : World} (h : Marks B ds W) (hb : ∀ (D : Nat), W.heap[D]? = some (.deferred (some [])) → W'.heap[D]? = W.heap[D]?) : Marks B ds W' := by
  obtain ⟨Ds, h1, h2, h3⟩ := h
  exact ⟨Ds, h1, h2, fun D hD => ⟨(h3 D hD).1, (hb D (h3 D hD).2).trans (h3 D hD).2⟩⟩

theorem Marks.cons {B : Nat} {ds : List Deferred} {W : World} {D : Nat} (h : Marks B ds W) (hB : B ≤ D) (hD : W.heap[D]? = some (.deferred (some []))) (hnew : ∀ d ∈ ds, d.target ≠ .collected D) :
    Marks B ({ target := .collected D, args := #[] } :: ds) W := by
  obtain ⟨Ds, rfl, h2, h3⟩ := h
  refine ⟨D :: Ds, rfl, List.nodup_cons.2 ⟨fun hm => ?_, h2⟩, fun D' hD' => ?_⟩
  · exact hnew _ (List.mem_map_of_mem hm) rfl
  · cases List.mem_cons.1 hD' with
    | inl e => subst e; exact ⟨hB, hD⟩
    | inr e => exact h3 D' e

theorem Marks.lt {B : Nat} {ds : List Deferred} {W : World} (h : Marks B ds W) : ∀ d ∈ ds, ∀ D, W.heap.size ≤ D → d.target ≠ .collected D := by
  obtain ⟨Ds, rfl, h2, h3⟩ := h
  intro d hd D hD he
  obtain ⟨D', hD', rfl⟩ := List.mem_map.1 hd
  have := (Array.getElem?_eq_some_iff.1 (h3 D' hD').2).1
  simp at he
  omega

theorem leaves_marks {F : Fence} {n : Nat} {P : Program} {fn : Func} {tmps : Array Value} {R : Ending → World → Prop} (B : Nat) (Φ : World → Prop)
    (hΦ : ∀ W D, B ≤ D → W.heap[D]? = some (.deferred (some [])) → Φ W → Φ (W.putObj D (.deferred none)))
    (hfin : ∀ W, Φ W → LeavesInM F n P fn tmps R [] .returning W) : ∀ (ds : List Deferred) (W : World), Marks B ds W → Φ W → LeavesInM F n P fn tmps R ds .returning W := by
  rintro ds W ⟨Ds, rfl, h2, h3⟩ hW
  induction Ds generalizing W with
  | nil => exact hfin W hW
  | cons D Ds ih =>
    have hD := h3 D (List.mem_cons_self)
    refine ⟨by simp, .inl ⟨_, _, rfl, run_takeDeferred hD.2, ?_⟩⟩
    refine ih _ (List.nodup_cons.1 h2).2 (fun D' hD' => ?_) (hΦ W D hD.1 hD.2 hW)
    have hne : D' ≠ D := fun e => (List.nodup_cons.1 h2).1 (e ▸ hD')
    exact ⟨(h3 D' (List.mem_cons_of_mem _ hD')).1, (World.putObj_heap_other hne).trans (h3 D' (List.mem_cons_of_mem _ hD')).2⟩

/-- What a block of deferred calls does when it is shut: nothing below it turns, and no block of cells. -/
theorem below_shut {B : Nat} {a W : World} {D : Nat} (h : Below B a W) (hB : B ≤ D) (hD : W.heap[D]? = some (.deferred (some []))) : Below B a (W.putObj D (.deferred none)) :=
  h.grown (grownBy_putObj' W D _) (by have := (Array.getElem?_eq_some_iff.1 hD).1; omega) (fun k e => by cases e; exact hB)

theorem grown_of_below_row {w w' : World} (h : Below w.heap.size w w') (row : Option Nat) : w.grownBy w' row :=
  ⟨h.os, h.tape, h.output, h.size, fun k hk _ => h.block k hk⟩
theorem grown_drew {w w' : World} {row : Option Nat} (h : w.grownBy w' row) : w.grownBy w'.drew row := ⟨h.os, h.tape, h.output, h.size, h.block⟩

/-- 'All but one row of what lay in W₀ lies as it lay' abides the turn of a block that is no cells and lies beyond. -/
theorem ownFrom_grown {β : Type} {W₀ : World} (row : Option Nat) : OwnFrom W₀.heap.size (fun (_ : β) W => W₀.grownBy W row) := by
  intro s W W' r hs hg hr
  refine ⟨hg.os.trans hs.os, hg.tape.trans hs.tape, hg.output.trans hs.output, Nat.le_trans hs.size hg.size, fun k hk hne => ?_⟩
  refine (hg.block k (Nat.lt_of_lt_of_le hk hs.size) (fun e => ?_)).trans (hs.block k hk hne)
  have := (hr k e.symm).1
  omega

theorem Marks.grown {B : Nat} {ds : List Deferred} {W W' : World} {b : Nat} {o : Obj} (h : Marks B ds W) (hg : W.grownBy W' (some b)) (hb : W.heap[b]? = some o) (ho : o.isCells = true) : Marks B ds W' :=
  h.other fun D hD => hg.block D (Array.getElem?_eq_some_iff.1 hD).1 (fun e => by
    cases e
    rw [hb] at hD
    cases hD
    simp [Obj.isCells] at ho)

end Go.Proofs.YtjijkgmeddeihaaDoor
