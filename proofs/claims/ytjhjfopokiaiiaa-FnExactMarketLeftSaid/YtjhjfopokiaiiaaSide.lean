/-
  impl.sideFrom reads a side: its rankings and the places in them.
-/
import Derived.Test.YtjhjfopokiaiiaaOrder
import Derived.Test.YtjhjfopokiaiiaaOrds
import Derived.Test.YtjhjfopokiaiiaaOnce
import Derived.Test.YtjhjfopokiaiiaaLinks
import Derived.Deep.WholeRow
import Derived.Deep.RegionWith
import Derived.Maps.AppendAt
namespace Go.Proofs.Ytjhjfopokiaiiaa
set_option linter.unusedVariables false
set_option linter.unusedSimpArgs false
open Go.RowKit

abbrev two (a b : Value) : Array Value := #[a, b]
abbrev nilS : Value := .slice none 0 0
theorem sizeSI : (Try.prog.info? 52).map (·.size) = some 2 := by kernel_rfl
theorem size_two (a b : Value) : (Try.prog.info? 52).map (·.size) = some (two a b).size := sizeSI
theorem two_cells {w : World} {g : Nat} {a b : Value} {t : TypeId} (hg : w.heap[g]? = some (.cells (two a b) t (0, 0))) :
    w.cell? ⟨g, 0, none⟩ = some a ∧ w.cell? ⟨g, 1, none⟩ = some b ∧ (∀ i, w.frozen? ⟨g, i, none⟩ = false) ∧ g < w.heap.size :=
  ⟨by rw [cell_of_row _ _ _ _ _ _ hg]; rfl, by rw [cell_of_row _ _ _ _ _ _ hg]; rfl, fun i => frozen_of_row w g i _ _ hg, (Array.getElem?_eq_some_iff.1 hg).1⟩
theorem load_side {ops : Array Oper} {rest : List Oper} {o : Oper} {a : Act} {w : World} {Q : Exit → Act → World → Prop} (hgd : o.guard = none) (x : Operand) (ho : o.op = .load 52 x)
    (g : Nat) (p q : Value) (hx : a.eval x = .pointer (some ⟨g, 0, none⟩)) (hg : w.heap[g]? = some (.cells (two p q) 52 (0, 0)))
    (h : wpList Try.prog ops Q rest (a.put o.dst (.agg (two p q))) w) : wpList Try.prog ops Q (o :: rest) a w :=
  wpList_load_row hgd 52 x ho g hx 52 (two p q) (0, 0) _ hg Try.underlying52 rfl (size_two p q) h
theorem store_side {ops : Array Oper} {rest : List Oper} {o : Oper} {a : Act} {w : World} {Q : Exit → Act → World → Prop} (hgd : o.guard = none) (x y : Operand) (ho : o.op = .store 52 x y)
    (g : Nat) (p q : Value) (hx : a.eval x = .pointer (some ⟨g, 0, none⟩)) (hy : a.eval y = .agg (two p q)) (p0 q0 : Value) (h1 : p.oneCell' = true) (h2 : q.oneCell' = true)
    (hg : w.heap[g]? = some (.cells (two p0 q0) 52 (0, 0)))
    (h : wpList Try.prog ops Q rest (a.put o.dst undef) (w.setRow g (two p q))) : wpList Try.prog ops Q (o :: rest) a w :=
  wpList_store_row hgd 52 x y ho g (two p q) hx hy 52 (two p0 q0) hg (size_two p q) rfl (by simp [two, h1, h2]) h
theorem ret_side2 {fn : Func} {p u : Tmp} (h : fn.results = #[.cell p 52, .tmp u]) (tmps : Array Value) (w : World) (g : Nat) (a b : Value) (v : Value)
    (hp : tmps.getD p undef = .pointer (some ⟨g, 0, none⟩)) (hv : tmps.getD u undef = v) (hg : w.heap[g]? = some (.cells (two a b) 52 (0, 0))) :
    (results fn tmps).run Try.prog w = .ok (.tuple #[.agg (two a b), v]) w := by
  subst hv
  rw [results_cell_tmp h tmps Try.prog w, hp]
  simp only [asAddr, Sem.run_pure, Result.andThen]
  rw [run_loadVar_row w g 52 52 (two a b) (0, 0) _ hg Try.underlying52 rfl (size_two a b)]

/-- Whether all lists are rankings. -/
def sideOk (xss : List (List Int)) : Bool := xss.all (rankB xss.length)
theorem sideOk_no {xss : List (List Int)} {k : Nat} (hk : k < xss.length) (h : rankB xss.length xss[k] = false) : sideOk xss = false := by
  unfold sideOk
  rw [Bool.eq_false_iff]
  intro hall
  rw [List.all_eq_true.1 hall _ (List.getElem_mem hk)] at h
  cases h
theorem sideOk_yes {xss : List (List Int)} (h : ∀ k (hk : k < xss.length), rankB xss.length xss[k] = true) : sideOk xss = true := by
  unfold sideOk
  rw [List.all_eq_true]
  intro x hx
  obtain ⟨k, hk, rfl⟩ := List.getElem_of_mem hx
  exact h k hk
theorem sideOk_at {xss : List (List Int)} (h : sideOk xss = true) (k : Nat) (hk : k < xss.length) : rankB xss.length xss[k] = true := List.all_eq_true.1 h _ (List.getElem_mem hk)

def GivesSide (w : World) (xss : List (List Int)) (e : Ending) (w' : World) : Prop :=
  ∃ A1 n1 c1 A2 n2 c2 us, e = .returned (.tuple #[.agg (two (.slice A1 n1 c1) (.slice A2 n2 c2)), .bool (sideOk xss)]) ∧ Below w.heap.size w w' ∧
    (sideOk xss = true → OwnsOrd w' w.heap.size w'.heap.size (.slice A1 n1 c1) us xss ∧ ∃ us2, OwnsOrd w' w.heap.size w'.heap.size (.slice A2 n2 c2) us2 (xss.map backOf))

/-- What stands when k rankings and j places were read. -/
structure SideAt (w wr : World) (xss : List (List Int)) (k j : Nat) (v1 v2 : Value) (us1 us2 : List Value) : Prop where
  bel : Below w.heap.size w wr
  res : wr.heap[w.heap.size]? = some (.cells (two nilS nilS) 52 (0, 0))
  cur : wr.heap[w.heap.size + 1]? = some (.cells (two v1 v2) 52 (0, 0))
  one : OwnsOrd wr w.heap.size wr.heap.size v1 us1 (xss.take k)
  two : OwnsOrd wr w.heap.size wr.heap.size v2 us2 ((xss.take j).map backOf)
  apart : v1.ownBlock = none ∨ v1.ownBlock ≠ v2.ownBlock

theorem SideAt.cur3 {w wr w2 w3 : World} {xss : List (List Int)} {k j : Nat} {v1 v2 : Value} {us1 us2 : List Value} (h : SideAt w wr xss k j v1 v2 us1 us2) (hb : Below wr.heap.size wr w2) (hg : w2.grownBy w3 v1.ownBlock ∨ w2.grownBy w3 v2.ownBlock) :
    w3.heap[w.heap.size + 1]? = some (.cells (Go.Proofs.Ytjhjfopokiaiiaa.two v1 v2) 52 (0, 0)) := by
  have hlt := (Array.getElem?_eq_some_iff.1 h.cur).1
  have hs := hb.size
  have key : ∀ {v : Value} {n : Nat} {ys : List Value}, wr.ownsRow w.heap.size 60 1 v n ys → w2.grownBy w3 v.ownBlock → w3.heap[w.heap.size + 1]? = some (.cells (Go.Proofs.Ytjhjfopokiaiiaa.two v1 v2) 52 (0, 0)) := fun {v} {n} {ys} hr hg => by
    refine ((hg.block _ (by omega) (fun e => ?_)).trans (hb.block _ hlt)).trans h.cur
    obtain ⟨c1, f1, hc1⟩ := row_cells hr e.symm
    have := h.cur
    rw [hc1] at this
    simp at this
  rcases hg with hg | hg
  · exact key h.one.outer.1 hg
  · exact key h.two.outer.1 hg

theorem apart_sym {v1 v2 : Value} (h : v1.ownBlock = none ∨ v1.ownBlock ≠ v2.ownBlock) : v2.ownBlock = none ∨ v2.ownBlock ≠ v1.ownBlock := by
  cases hv : v2.ownBlock with
  | none => exact .inl rfl
  | some b =>
    right
    rw [hv] at h
    rcases h with h | h
    · rw [h]; simp
    · exact Ne.symm h

theorem SideAt.push1 {w wr w2 w3 : World} {xss : List (List Int)} {k : Nat} {v1 v2 : Value} {us1 us2 : List Value} (h : SideAt w wr xss k k v1 v2 us1 us2) (hk : k < xss.length) (hb : Below wr.heap.size wr w2) {u : Value} (hu : Owns w2 wr.heap.size u xss[k]) {g cap n : Nat} (hn : us1.length = n)
    (hown : w3.ownsRow w.heap.size 60 1 (.slice (some ⟨g, 0, none⟩) (n + 1) cap) (n + 1) (us1 ++ [u])) (hg : w2.grownBy w3 v1.ownBlock) (hgc : v1.ownBlock = some g ∨ wr.heap.size ≤ g) :
    SideAt w (w3.setCell ⟨w.heap.size + 1, 0, none⟩ (.slice (some ⟨g, 0, none⟩) (n + 1) cap)) xss (k + 1) k (.slice (some ⟨g, 0, none⟩) (n + 1) cap) v2 (us1 ++ [u]) us2 := by
  have hs := h.bel.size
  obtain ⟨p1, p2, p3, p4⟩ := h.one.push h.two h.apart hs hb hu hn hown hg hgc
  have c1 := p4 _ _ _ _ h.res (by decide)
  have c2 := p4 _ _ _ _ h.cur (by decide)
  have hgr := grown_setCell w3 (w.heap.size + 1) 0 (.slice (some ⟨g, 0, none⟩) (n + 1) cap)
  have hsz : (w3.setCell ⟨w.heap.size + 1, 0, none⟩ (.slice (some ⟨g, 0, none⟩) (n + 1) cap)).heap.size = w3.heap.size := by simp [World.setCell]
  refine ⟨?_, ?_, ?_, ?_, ?_, p3⟩
  · exact ((step_below h.bel hb).grown hg (by have := hb.size; omega) (fun j hj => (h.one.outer.1.lt j hj).1)).setCell (p := ⟨w.heap.size + 1, 0, none⟩) (Nat.le_succ _) _
  · rw [heap_setCell_other _ _ _ _ (by simp)]; exact c1
  · rw [heap_setCell_same _ _ 0 _ _ _ c2]; rfl
  · rw [hsz]; have := p1.other hgr c2 (by decide) (by decide); rw [List.take_succ_eq_append_getElem hk]; exact this
  · rw [hsz]; exact p2.other hgr c2 (by decide) (by decide)

theorem SideAt.push2 {w wr w2 w3 : World} {xss : List (List Int)} {k : Nat} {v1 v2 : Value} {us1 us2 : List Value} (h : SideAt w wr xss (k + 1) k v1 v2 us1 us2) (hk : k < xss.length) (hb : Below wr.heap.size wr w2) {u : Value} (hu : Owns w2 wr.heap.size u (backOf xss[k])) {g cap n : Nat} (hn : us2.length = n)
    (hown : w3.ownsRow w.heap.size 60 1 (.slice (some ⟨g, 0, none⟩) (n + 1) cap) (n + 1) (us2 ++ [u])) (hg : w2.grownBy w3 v2.ownBlock) (hgc : v2.ownBlock = some g ∨ wr.heap.size ≤ g) :
    SideAt w (w3.setCell ⟨w.heap.size + 1, 1, none⟩ (.slice (some ⟨g, 0, none⟩) (n + 1) cap)) xss (k + 1) (k + 1) v1 (.slice (some ⟨g, 0, none⟩) (n + 1) cap) us1 (us2 ++ [u]) := by
  have hs := h.bel.size
  obtain ⟨p1, p2, p3, p4⟩ := h.two.push h.one (apart_sym h.apart) hs hb hu hn hown hg hgc
  have c1 := p4 _ _ _ _ h.res (by decide)
  have c2 := p4 _ _ _ _ h.cur (by decide)
  have hgr := grown_setCell w3 (w.heap.size + 1) 1 (.slice (some ⟨g, 0, none⟩) (n + 1) cap)
  have hsz : (w3.setCell ⟨w.heap.size + 1, 1, none⟩ (.slice (some ⟨g, 0, none⟩) (n + 1) cap)).heap.size = w3.heap.size := by simp [World.setCell]
  refine ⟨?_, ?_, ?_, ?_, ?_, apart_sym p3⟩
  · exact ((step_below h.bel hb).grown hg (by have := hb.size; omega) (fun j hj => (h.two.outer.1.lt j hj).1)).setCell (p := ⟨w.heap.size + 1, 1, none⟩) (Nat.le_succ _) _
  · rw [heap_setCell_other _ _ _ _ (by simp)]; exact c1
  · rw [heap_setCell_same _ _ 1 _ _ _ c2]; rfl
  · rw [hsz]; exact p2.other hgr c2 (by decide) (by decide)
  · rw [hsz]
    have := p1.other hgr c2 (by decide) (by decide)
    rw [List.take_succ_eq_append_getElem hk, List.map_append]
    exact this

end Go.Proofs.Ytjhjfopokiaiiaa
