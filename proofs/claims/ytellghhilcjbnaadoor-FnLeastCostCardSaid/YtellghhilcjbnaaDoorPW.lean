/-
  PW: ColMap ColMath Pricer PStep PLen PAsk FillMath PList.
-/
import Derived.Test.YtellghhilcjbnaaDoorMemoI
import Derived.Test.YtellghhilcjbnaaDoorPM
import Derived.Maps.RangeWalk
import Derived.Test.YtellghhilcjbnaaDoorTabs
import Derived.Test.YtellghhilcjbnaaDoorYWhole
import Derived.Test.YtellghhilcjbnaaDoorCostAt
import Derived.Deep.RegionHeld3
/-
  A map from columns to prices, told as a function of columns; what clear leaves.
-/
namespace Go.Proofs.YtellghhilcjbnaaDoor
set_option linter.unusedVariables false
set_option linter.unusedSimpArgs false
open Go.RowKit
open Go.Maps (Keyed)

theorem keyOf_col {s : Nat} (hs : s < 256) : keyOf Tryd.prog 3 (.int .i64 (s : Int)) = some (klI s) := by
  have hw := wf_i64 (x := (s : Int)) (by omega) (by omega)
  unfold keyOf mapKey
  simp [Tryd.underlying3, hw, klI]
/-- What is read is the function P, and nothing else. -/
def ColRead (D : DataW Unit) (P : Nat → Option Int) : Prop :=
  Maps.IsMap D ∧ (∀ a, a < 6 → Maps.has D (klI a) = (P a).isSome ∧ ∀ x, P a = some x → ∀ zd, D.atKey (klI a) zd = .lit (.int .i64 x)) ∧ ∀ x : Int, Maps.has D (.int .i64 x) = true → ∃ a : Nat, a < 6 ∧ x = (a : Int)
theorem colRead_empty : ColRead (.map []) (fun _ => none) := ⟨Maps.isMap_empty, fun _ _ => ⟨rfl, fun _ h => by cases h⟩, fun _ h => by cases h⟩
theorem klI_at {x : Int} {a : Nat} (h : x = (a : Int)) : (Lit.int .i64 x) = klI a := by rw [h]; rfl
theorem colRead_put {D : DataW Unit} {P : Nat → Option Int} (h : ColRead D P) {a : Nat} (ha : a < 6) (v : Int) : ColRead (D.put (klI a) (.lit (.int .i64 v))) (updP P a v) := by
  obtain ⟨h1, h2, h3⟩ := h
  have hk : WideAt.IsKeyLit (klI a) := by simp [klI, WideAt.IsKeyLit]
  refine ⟨h1.put _ _, fun b hb => ?_, fun x hx => ?_⟩
  · unfold updP
    by_cases e : b = a
    · subst e
      rw [if_pos rfl]
      exact ⟨Maps.has_put_same h1 hk _, fun x hx zd => by cases hx; exact Maps.atKey_put_same h1 hk _ _⟩
    · rw [if_neg e]
      obtain ⟨h4, h5⟩ := h2 b hb
      exact ⟨by rw [Maps.has_put_other (klI_ne e)]; exact h4, fun x hx zd => by rw [Maps.atKey_put_other (klI_ne e)]; exact h5 x hx zd⟩
  · by_cases e : x = (a : Int)
    · exact ⟨a, ha, e⟩
    · rw [Maps.has_put_other (by simp [klI]; exact e)] at hx
      exact h3 x hx
/-- Block B is a map of at most m entries that holds what P says. -/
def ColMap (w : World) (B : Nat) (P : Nat → Option Int) (m : Nat) : Prop := ∃ D : DataW Unit, w.ownsMap Tryd.prog 3 (plainElem Tryd.prog 3) B m D ∧ ColRead D P
theorem ColMap.kept {w w' : World} {B m : Nat} {P : Nat → Option Int} {row : Option Nat} (h : ColMap w B P m) (hg : w.grownBy w' row) (hne : some B ≠ row) : ColMap w' B P m := by
  obtain ⟨D, ho, hr⟩ := h
  exact ⟨D, ho.kept hg hne, hr⟩
theorem ColMap.below {w w' : World} {B m : Nat} {P : Nat → Option Int} (h : ColMap w B P m) (hb : Below w.heap.size w w') : ColMap w' B P m := h.kept (row := none) ⟨hb.os, hb.tape, hb.output, hb.size, fun k hk _ => hb.block k hk⟩ (by simp)
theorem ColMap.mono {w : World} {B m m' : Nat} {P : Nat → Option Int} (h : ColMap w B P m) (hm : m ≤ m') : ColMap w B P m' := by
  obtain ⟨D, ho, hr⟩ := h
  exact ⟨D, ho.mono hm, hr⟩
theorem ColMap.lt {w : World} {B m : Nat} {P : Nat → Option Int} (h : ColMap w B P m) : B < w.heap.size := by
  obtain ⟨D, ho, _⟩ := h
  exact ho.lt
theorem ColMap.made (w : World) : ColMap (w.alloc (.map #[] 0)) w.heap.size (fun _ => none) 0 := ⟨.map [], World.ownsMap_made w _ _ _, colRead_empty⟩

theorem ColMap.apart {w : World} {B m : Nat} {P : Nat → Option Int} (h : ColMap w B P m) {a : Addr} {v : Value} (hc : w.cell? a = some v) : a.block ≠ B := by
  obtain ⟨D, ⟨es, clock, hb, _⟩, _⟩ := h
  intro e
  subst e
  simp [World.cell?, hb] at hc
theorem ColMap.cell {w w' : World} {B m : Nat} {P : Nat → Option Int} (h : ColMap w B P m) (hW : Within B (B + 1) w w') {a : Addr} {v : Value} (hc : w.cell? a = some v) : w'.cell? a = some v := by
  have hne := h.apart hc
  exact (World.cell?_of_block (hW.block a.block (World.block_lt_of_cell? _ _ hc) (by omega))).trans hc
theorem ColMap.ints {w w' : World} {B m : Nat} {P : Nat → Option Int} (h : ColMap w B P m) (hW : Within B (B + 1) w w') {v : Value} {xs : List Int} (hi : Ints w v xs) : Ints w' v xs := by
  obtain ⟨A, cap, rfl, hm, hc⟩ := hi
  refine ⟨A, cap, rfl, hm, fun k hk => ?_⟩
  obtain ⟨b, off, hA, hcell⟩ := hc k hk
  exact ⟨b, off, hA, h.cell hW hcell⟩
/-- What of the map has been met: s is the least price met, or 0. -/
def SeenTo (D : DataW Unit) (P : Nat → Option Int) (left : Lit → Bool) (s : Int) : Prop :=
  (∀ x : Int, left (.int .i64 x) = true → Maps.has D (.int .i64 x) = true) ∧ (s = 0 ∨ ∃ a, a < 6 ∧ P a = some s) ∧ s ≤ 0 ∧ ∀ a, a < 6 → ∀ x, P a = some x → left (klI a) = true ∨ s ≤ x
theorem seen_begin {D : DataW Unit} {P : Nat → Option Int} (h : ColRead D P) : SeenTo D P (Maps.has D) 0 :=
  ⟨fun _ hx => hx, .inl rfl, Int.le_refl _, fun a ha x hx => .inl (by rw [(h.2.1 a ha).1, hx]; rfl)⟩
theorem seen_next {D : DataW Unit} {P : Nat → Option Int} {left : Lit → Bool} {s x c : Int} (h : ColRead D P) (hs : SeenTo D P left s) (hl : left (.int .i64 x) = true) (hat : ∀ zd, D.atKey (.int .i64 x) zd = .lit (.int .i64 c)) :
    SeenTo D P (fun z => left z && !z.sameKey (.int .i64 x)) (min s c) := by
  obtain ⟨h1, h2, h3, h4⟩ := hs
  obtain ⟨a, ha, hxa⟩ := h.2.2 x (h1 x hl)
  have hc : P a = some c := by
    have hh := h1 x hl
    rw [klI_at hxa] at hh hat
    obtain ⟨h5, h6⟩ := h.2.1 a ha
    rw [hh] at h5
    obtain ⟨y, hy⟩ := Option.isSome_iff_exists.1 h5.symm
    have := h6 y hy (.lit (.int .i64 0))
    rw [hat] at this
    have hyc : c = y := by simpa using this
    rw [hyc]; exact hy
  refine ⟨fun y hy => h1 y (by simp only [Bool.and_eq_true] at hy; exact hy.1), ?_, by omega, fun b hb y hy => ?_⟩
  · rcases Int.le_total s c with hle | hle
    · rw [Int.min_eq_left hle]; exact h2
    · rw [Int.min_eq_right hle]; exact .inr ⟨a, ha, hc⟩
  · by_cases e : b = a
    · subst e
      rw [hc] at hy
      cases hy
      exact .inr (by omega)
    · rcases h4 b hb y hy with h7 | h7
      · refine .inl ?_
        show (left (klI b) && !(klI b).sameKey (.int .i64 x)) = true
        rw [h7, klI_at hxa, Maps.sameKey_ne (klI_ne e)]; rfl
      · exact .inr (by omega)
theorem seen_done {D : DataW Unit} {P : Nat → Option Int} {left : Lit → Bool} {s z : Int} (hs : SeenTo D P left s) (hl : ∀ kl, left kl = false) (hall : ∀ a w, P a = some w → z ≤ w) (hz : z ≤ 0) (hit : ∃ a, a < 6 ∧ P a = some z) : s = z := by
  obtain ⟨h1, h2, h3, h4⟩ := hs
  obtain ⟨a, ha, hp⟩ := hit
  have h5 : s ≤ z := by
    rcases h4 a ha z hp with h | h
    · rw [hl] at h; cases h
    · exact h
  have h6 : z ≤ s := by
    rcases h2 with h | ⟨b, hb, h⟩
    · omega
    · exact hall b s h
  omega

open Go.ChangeMaps Go.MapKept in
/-- clear(m). -/
theorem wpList_clear_own {P : Program} (w : World) {ops : Array Oper} {rest : List Oper} {o : Oper} {a : Act} {Q : Exit → Act → World → Prop} (hg : o.guard = none) (m : Operand) (t : TypeId)
    (hop : o.op = Op.call { callee := Callee.builtin Builtin.clear, args := #[m], argTypes := #[t] }) (k e : TypeId) (ht : P.underlying t = some (.map k e)) (R : Value → Option (DataW Unit × List MemPlace)) (b n : Nat) (D : DataW Unit)
    (hm : a.eval m = .map (some b)) (hown : w.ownsMap P k R b n D)
    (hK : ∀ w', w'.ownsMap P k R b 0 (.map []) → w.grownBy w' (some b) → wpList P ops Q rest (a.put o.dst (.tuple #[])) w') : wpList P ops Q (o :: rest) a w := by
  obtain ⟨es, clock, hb, F, hs, rfl⟩ := hown
  refine wpList_plain hg fun K' hK' => ?_
  have hrun : (Builtin.clear_ #[t] o.type #[.map (some b)]).run P w = .ok (.tuple #[]) (setBlock w b (.map #[] clock)) := by
    simp [Builtin.clear_, run_underlying ht, MapKept.run_getObj_map hb, MapKept.run_setObj_map _ hb, Result.andThen, setBlock]
  unfold Oper.wp
  simp [execOp, hop, resolve, invoke, builtin, hm, hrun, Result.andThen]
  exact hK' _ _ (hK _ ⟨#[], clock, heap_setBlock_same hb _, ⟨by simp, MapKept.stamped_empty clock, by simp⟩, Nat.le_refl _, rfl⟩ ⟨rfl, rfl, rfl, by simp [setBlock], fun i _ hi => heap_setBlock_other hb _ (fun e => hi (by rw [e]))⟩)

end Go.Proofs.YtellghhilcjbnaaDoor

/-
  How great the prices of ways can be; a number of the table and its row and column. Plain functions.
-/
namespace Go.Proofs.YtellghhilcjbnaaDoor
set_option linter.unusedVariables false
set_option linter.unusedSimpArgs false
open Go.RowKit

theorem flat_col (xss : List (List Int)) (i : Nat) {j : Nat} (hj : j < 6) : flat xss (6 * i + j) = colC xss i j := by
  unfold flat colC
  rw [show (6 * i + j) / 6 = i by omega, show (6 * i + j) % 6 = j by omega]
/-- No price is greater in size. -/
def BndP (P : Nat → Option Int) (b : Int) : Prop := ∀ a w, P a = some w → -b ≤ w ∧ w ≤ b
theorem step_bound {xss : List (List Int)} (hc : cIn xss = true) (ps : List Int) (i j : Nat) : -2000 ≤ stepC xss ps i j ∧ stepC xss ps i j ≤ 2000 := by
  have h1 := colC_bound hc i j
  have h2 := colC_bound hc i (ownC ps i)
  unfold stepC
  omega
theorem bnd_step {xss : List (List Int)} (hc : cIn xss = true) {ps : List Int} {P : Nat → Option Int} {b b' : Int} (h : BndP P b) (hb : b + 2000 ≤ b') (i j : Nat) : BndP (lenStep xss ps P i j) b' := by
  have hs := step_bound hc ps i j
  have old : BndP P b' := fun a w hw => by have := h a w hw; omega
  have new : ∀ w, P j = some w → BndP (updP P (ownC ps i) (w + stepC xss ps i j)) b' := fun w hw a x hx => by
    unfold updP at hx
    split at hx
    · cases hx
      have := h j w hw
      omega
    · exact old a x hx
  unfold lenStep
  cases hj : P j with
  | none => exact old
  | some w =>
    cases ho : P (ownC ps i) with
    | none => exact new w hj
    | some o =>
      simp only
      split
      · exact new w hj
      · exact old
theorem bnd_lenJ {xss : List (List Int)} (hc : cIn xss = true) {ps : List Int} {P : Nat → Option Int} {b : Int} (h : BndP P b) (i : Nat) : ∀ m : Nat, BndP (lenJ xss ps i P m) (b + 2000 * (m : Int))
  | 0 => fun a w hw => by have := h a w hw; omega
  | m + 1 => bnd_step hc (bnd_lenJ hc h i m) (by omega) i m
theorem bnd_lenI {xss : List (List Int)} (hc : cIn xss = true) {ps : List Int} {P : Nat → Option Int} {b : Int} (h : BndP P b) : ∀ m : Nat, BndP (lenI xss ps P m) (b + 12000 * (m : Int))
  | 0 => fun a w hw => by have := h a w hw; omega
  | m + 1 => fun a w hw => by
    have h6 := (cIn_size hc).2
    have := bnd_lenJ hc (ps := ps) (bnd_lenI hc h m) m xss.length a w hw
    omega
theorem bnd_lenK {xss : List (List Int)} (hc : cIn xss = true) (ps : List Int) (t : Nat) : ∀ k : Nat, BndP (lenK xss ps t k) (72000 * (k : Int))
  | 0 => fun a w hw => by
    have hw' : (if a = t then some (0 : Int) else none) = some w := hw
    split at hw'
    · cases hw'; omega
    · cases hw'
  | k + 1 => fun a w hw => by
    have h6 := (cIn_size hc).2
    have := bnd_lenI hc (ps := ps) (bnd_lenK hc ps t k) xss.length a w hw
    omega
theorem lenStep_some {xss : List (List Int)} {ps : List Int} {P : Nat → Option Int} {i j own : Nat} {way z c : Int} (hq : P j = some way) (ho : ownC ps i = own) (hz : stepC xss ps i j = z) (hc : way + z = c) :
    lenStep xss ps P i j = (match P own with | none => updP P own c | some old => if c < old then updP P own c else P) := by
  subst ho hz hc
  unfold lenStep
  rw [hq]
  cases P (ownC ps i) <;> rfl

end Go.Proofs.YtellghhilcjbnaaDoor

/-
  A pricer as a value: costs, a choice, a map. Its costs loaded out of its block.
-/
namespace Go.Proofs.YtellghhilcjbnaaDoor
set_option linter.unusedVariables false
set_option linter.unusedSimpArgs false
open Go.RowKit

/-- The cells of a pricer: whole costs, a slice, a map. -/
def pcells (n : Nat) (F : Nat → Int) (c m : Value) : Array Value := tcells n F ++ #[c, m]
theorem pcells_size (n : Nat) (F : Nat → Int) (c m : Value) : (pcells n F c m).size = 39 := rfl
theorem sizePT : (Tryd.prog.info? 67).map (·.size) = some 39 := by kernel_rfl
theorem size_pcells (n : Nat) (F : Nat → Int) (c m : Value) : (Tryd.prog.info? 67).map (·.size) = some (pcells n F c m).size := by rw [pcells_size]; exact sizePT
theorem pcells_low (n : Nat) (F : Nat → Int) (c m : Value) (j : Nat) (v : Value) (h : (tcells n F)[j]? = some v) : (pcells n F c m)[j]? = some v := by
  unfold pcells
  rw [Array.getElem?_append_left (Array.getElem?_eq_some_iff.1 h).1]
  exact h
theorem pcells_choice (n : Nat) (F : Nat → Int) (c m : Value) : (pcells n F c m)[37]? = some c := rfl
theorem pcells_map (n : Nat) (F : Nat → Int) (c m : Value) : (pcells n F c m)[38]? = some m := rfl
theorem pcells_one (n : Nat) (F : Nat → Int) (c m : Value) (hc : c.oneCell' = true) (hm : m.oneCell' = true) : (pcells n F c m).all (·.oneCell') = true := by
  simp [pcells, tcells, Value.oneCell'] at hc hm ⊢
  exact ⟨hc, hm⟩
/-- The choice and the map of a pricer that lies in a block. -/
theorem pricer_cells {w : World} {g n : Nat} {F : Nat → Int} {c m : Value} (hg : w.heap[g]? = some (.cells (pcells n F c m) 67 (0, 0))) :
    w.cell? ⟨g, 37, none⟩ = some c ∧ w.cell? ⟨g, 38, none⟩ = some m ∧ (∀ i, w.frozen? ⟨g, i, none⟩ = false) ∧ g < w.heap.size :=
  ⟨by rw [cell_of_row _ _ _ _ _ _ hg]; rfl, by rw [cell_of_row _ _ _ _ _ _ hg]; rfl, fun i => frozen_of_row w g i _ _ hg, (Array.getElem?_eq_some_iff.1 hg).1⟩
/-- Whole costs at the begin of a block of more cells. -/
theorem run_load_costs {w : World} {g n : Nat} {F : Nat → Int} {c m : Value} (hg : w.heap[g]? = some (.cells (pcells n F c m) 67 (0, 0))) :
    (loadVar 49 ⟨g, 0, none⟩).run Tryd.prog w = .ok (.agg (tcells n F)) w := by
  have hl : (loadCells ⟨g, 0, none⟩ (tcells n F).toList.length).run Tryd.prog w = .ok (tcells n F).toList.toArray w :=
    run_loadCells_list (P := Tryd.prog) w ⟨g, 0, none⟩ (tcells n F).toList (fun j v hv => by
      have hadd : (⟨g, 0, none⟩ : Addr).add j = ⟨g, j, none⟩ := by unfold Addr.add; split <;> simp_all
      rw [hadd, cell_of_row w g j _ _ _ hg]
      exact pcells_low n F c m j v (by simpa using hv))
  have hi := sizeWC
  cases hq : Tryd.prog.info? 49 with
  | none => simp [hq] at hi
  | some i =>
    have hs : i.size = (tcells n F).size := by rw [tcells_size]; simpa [hq] using hi
    have hagg : (isAgg 49).run Tryd.prog w = .ok true w := by
      unfold isAgg
      rw [Sem.run_bind, run_underlying Tryd.underlying49 w]
      rfl
    simp only [Array.length_toList, Array.toArray_toList] at hl
    simp [loadVar, Sem.run_bind, hagg, sizeOf, typeInfo, hq, hs, hl]
theorem run_loadAt_costs {w : World} {g n : Nat} {F : Nat → Int} {c m : Value} (hg : w.heap[g]? = some (.cells (pcells n F c m) 67 (0, 0))) :
    (Instr.loadAt 49 (.pointer (some ⟨g, 0, none⟩))).run Tryd.prog w = .ok (.agg (tcells n F)) w := by
  simp only [Instr.loadAt, Instr.sureAddr, Sem.run_bind, Sem.run_pure, Result.andThen_ok, run_load_costs hg]
/-- In a region, where S says what lies there. -/
theorem yieldsIf_costs {ops : Array Oper} {S : World → Prop} {op : Oper} {a : Act} (hw : Region.wanted op (yielded ops a.tmps) = true) (x : Operand) (ho : op.op = .load 49 x)
    (g n : Nat) (F : Nat → Int) (c m : Value) (hx : a.eval x = .pointer (some ⟨g, 0, none⟩)) (hS : ∀ w, S w → w.heap[g]? = some (.cells (pcells n F c m) 67 (0, 0))) : YieldsIf Tryd.prog ops S op (.agg (tcells n F)) a :=
  .inl ⟨hw, fun w hw' => by
    unfold execOp
    simp only [ho, hx, Sem.run_bind, run_loadAt_costs (hS w hw'), Result.andThen_ok, Sem.run_pure]⟩
/-- A pricer out of its block. -/
theorem load_pricer {ops : Array Oper} {rest : List Oper} {o : Oper} {a : Act} {w : World} {Q : Exit → Act → World → Prop} (hgd : o.guard = none) (x : Operand) (ho : o.op = .load 67 x)
    (g : Nat) (n : Nat) (F : Nat → Int) (c m : Value) (hx : a.eval x = .pointer (some ⟨g, 0, none⟩)) (hg : w.heap[g]? = some (.cells (pcells n F c m) 67 (0, 0)))
    (h : wpList Tryd.prog ops Q rest (a.put o.dst (.agg (pcells n F c m))) w) : wpList Tryd.prog ops Q (o :: rest) a w :=
  wpList_load_row hgd 67 x ho g hx 67 (pcells n F c m) (0, 0) _ hg Tryd.underlying67 rfl (size_pcells n F c m) h
theorem yieldsIf_pricer {ops : Array Oper} {S : World → Prop} {op : Oper} {a : Act} (hw : Region.wanted op (yielded ops a.tmps) = true) (x : Operand) (ho : op.op = .load 67 x)
    (g n : Nat) (F : Nat → Int) (c m : Value) (hx : a.eval x = .pointer (some ⟨g, 0, none⟩)) (hS : ∀ w, S w → w.heap[g]? = some (.cells (pcells n F c m) 67 (0, 0))) : YieldsIf Tryd.prog ops S op (.agg (pcells n F c m)) a :=
  .inl ⟨hw, fun w hw' => by
    have hr : (Instr.loadAt 67 (.pointer (some ⟨g, 0, none⟩))).run Tryd.prog w = .ok (.agg (pcells n F c m)) w := by
      simp only [Instr.loadAt, Instr.sureAddr, Sem.run_bind, Sem.run_pure, Result.andThen_ok, run_loadVar_row w g 67 67 (pcells n F c m) (0, 0) _ (hS w hw') Tryd.underlying67 rfl (size_pcells n F c m)]
    unfold execOp
    simp only [ho, hx, Sem.run_bind, hr, Result.andThen_ok, Sem.run_pure]⟩
/-- A pricer's parameter: a new block, then the value into it. -/
theorem alloc_pricer {ops : Array Oper} {rest : List Oper} {o : Oper} {a : Act} {w : World} {Q : Exit → Act → World → Prop} (hgd : o.guard = none) (ho : o.op = .alloc 67)
    (h : wpList Tryd.prog ops Q rest (a.put o.dst (.pointer (some ⟨w.heap.size, 0, none⟩))) (w.alloc (.cells (pcells 0 (fun _ => 0) (.slice none 0 0) (.map none)) 67))) : wpList Tryd.prog ops Q (o :: rest) a w := by
  have hz : ∀ w, (zeroValue 67).run Tryd.prog w = .ok (.agg (pcells 0 (fun _ => 0) (.slice none 0 0) (.map none))) w := fun _ => by kernel_rfl
  have hr : (Instr.alloc 67 true (.tuple #[])).run Tryd.prog w = .ok (.pointer (some ⟨w.heap.size, 0, none⟩)) (w.alloc (.cells (pcells 0 (fun _ => 0) (.slice none 0 0) (.map none)) 67)) := by
    unfold Instr.alloc
    simp only [Sem.run_bind, hz, Result.andThen, newVar]
    rfl
  refine wpList_plain hgd fun K hK => ?_
  unfold Oper.wp
  simp only [ho, execOp, Sem.run_bind, hr, Result.andThen_ok, Sem.run_pure]
  exact hK _ _ h
theorem store_pricer_last {ops : Array Oper} {rest : List Oper} {o : Oper} {a : Act} {w : World} {Q : Exit → Act → World → Prop} (hgd : o.guard = none) (x y : Operand) (ho : o.op = .store 67 x y)
    (n : Nat) (F : Nat → Int) (c m : Value) (hc : c.oneCell' = true) (hm : m.oneCell' = true) (b : Nat) (hb : w.heap.size = b) (hx : a.eval x = .pointer (some ⟨b, 0, none⟩)) (hy : a.eval y = .agg (pcells n F c m))
    (h : wpList Tryd.prog ops Q rest (a.put o.dst undef) (w.alloc (.cells (pcells n F c m) 67))) :
    wpList Tryd.prog ops Q (o :: rest) a (w.alloc (.cells (pcells 0 (fun _ => 0) (.slice none 0 0) (.map none)) 67)) := by
  subst hb
  refine wpList_store_row hgd 67 x y ho w.heap.size (pcells n F c m) hx hy 67 (pcells 0 (fun _ => 0) (.slice none 0 0) (.map none)) (World.alloc_heap_new w _) (size_pcells n F c m) rfl (pcells_one n F c m hc hm) ?_
  rw [World.setRow_alloc_new]
  exact h

end Go.Proofs.YtellghhilcjbnaaDoor

/-
  (impl.pricer).step: what a step costs.
-/
namespace Go.Proofs.YtellghhilcjbnaaDoor
set_option linter.unusedVariables false
set_option linter.unusedSimpArgs false
open Go.RowKit

set_option maxRecDepth 100000 in
set_option maxHeartbeats 2000000 in
theorem pstep_any (w : World) (n : Nat) (F : Nat → Int) (A : Option Addr) (np cp : Nat) (m : Value) (hm1 : m.oneCell' = true) (ps : List Int) (hps : Ints w (.slice A np cp) ps) (row to own : Nat) (hrow : row < ps.length) (hown : ps[row] = (own : Int)) (hr6 : row < 6) (ht6 : to < 6) (ho6 : own < 6)
    (x y z : Int) (hx : F (6 * row + to) = x) (hy : F (6 * row + own) = y) (hz : x - y = z) (hb : -10000 ≤ z ∧ z ≤ 10000) :
    Calls Tryd.prog 69 #[.agg (pcells n F (.slice A np cp) m), .int .i64 (row : Int), .int .i64 (to : Int)] w fun e w' => e = .returned (.int .i64 z) ∧ Below w.heap.size w w' := by
  obtain ⟨A', cap', e', hm', hc'⟩ := hps
  obtain ⟨rfl, rfl, rfl⟩ : A = A' ∧ np = ps.length ∧ cp = cap' := by simpa using e'
  obtain ⟨b, off, rfl, hcell⟩ := hc' row hrow
  rw [hown] at hcell
  obtain ⟨np, hnp⟩ : ∃ np, ps.length = np := ⟨_, rfl⟩
  rw [hnp] at hrow hm' ⊢
  have hri : (row : Int) < (np : Int) := by omega
  have hr0 : (0 : Int) ≤ (row : Int) := by omega
  have hw1 : wrap64 (x - y) = z := by rw [hz]; unfold wrap64; omega
  have hw2 : IntKind.i64.wrap (x - y) = z := by rw [hz, IntKind.wrap_i64]; omega
  obtain ⟨W0, hW0⟩ : ∃ W0, w.alloc (.cells (pcells n F (.slice (some ⟨b, off, none⟩) np cp) m) 67) = W0 := ⟨_, rfl⟩
  have hb0 : Below w.heap.size w W0 := by rw [← hW0]; exact (Below.refl _ _).alloc (Nat.le_refl _) _
  have hg : W0.heap[w.heap.size]? = some (.cells (pcells n F (.slice (some ⟨b, off, none⟩) np cp) m) 67 (0, 0)) := by rw [← hW0]; exact World.alloc_heap_new _ _
  have hl1 : w.heap.size < W0.heap.size := (Array.getElem?_eq_some_iff.1 hg).1
  have hcw := (hb0.cell (World.block_lt_of_cell? _ _ hcell)).trans hcell
  have HB0 := Lib.hid hb0
  have HWR := Lib.hid (And.intro hw1 hw2)
  unfold maxLen at hm'
  clear hc' e' hown hcell hnp hb0 hw1 hw2 hz hb
  go_enter Tryd.func69, Tryd.ntmps69
  go_wp2_with (first
    | (refine alloc_pricer rfl rfl ?_)
    | (refine store_pricer_last rfl _ _ rfl n F (.slice (some ⟨b, off, none⟩) np cp) m rfl hm1 _ rfl rfl rfl ?_; rw [hW0]))
  clear hW0
  have hc3 : W0.cell? ⟨w.heap.size, 37, none⟩ = some (.slice (some ⟨b, off, none⟩) np cp) := (pricer_cells hg).1
  refine wp_region_held_drew (S := fun w' => w'.heap[w.heap.size]? = some (.cells (pcells n F (.slice (some ⟨b, off, none⟩) np cp) m) 67 (0, 0)) ∧ w'.cell? ⟨b, off + row, none⟩ = some (.int .i64 (own : Int))) (by kernel_rfl) ⟨hg, hcw⟩ (fun hHeld => ?_)
  refine wpAnyH_take (i := 0) (v := ?v0) rfl (by kernel_rfl) (by kernel_rfl) (by kernel_rfl) (fun _ _ _ h => h) (Or.inl ⟨by rfl, ?hy0⟩) (by assumption) ?_
  case hy0 =>
    intro w' hSw
    try dsimp only at hSw
    obtain ⟨hS1, hS2⟩ := hSw; have hS3 := (pricer_cells hS1).1
    go_simp
    try with_reducible rfl
  try simp only [Act.put, List.setIfInBounds_toArray, List.set_cons_zero, List.set_cons_succ]
  refine wpAnyH_take (i := 1) rfl (by kernel_rfl) (by kernel_rfl) (by kernel_rfl) (fun _ _ _ h => h) (yieldsIf_costs (by rfl) _ rfl w.heap.size n F (.slice (some ⟨b, off, none⟩) np cp) m rfl (fun w' hw' => hw'.1)) (by assumption) ?_
  try simp only [Act.put, List.setIfInBounds_toArray, List.set_cons_zero, List.set_cons_succ]
  refine wpAnyH_take (i := 2) (v := ?v2) rfl (by kernel_rfl) (by kernel_rfl) (by kernel_rfl) (fun _ _ _ h => h) (Or.inl ⟨by rfl, ?hy2⟩) (by assumption) ?_
  case hy2 =>
    intro w' hSw
    try dsimp only at hSw
    obtain ⟨hS1, hS2⟩ := hSw; have hS3 := (pricer_cells hS1).1
    go_simp
    try with_reducible rfl
  try simp only [Act.put, List.setIfInBounds_toArray, List.set_cons_zero, List.set_cons_succ]
  refine wpAnyH_take (i := 3) (v := ?v3) rfl (by kernel_rfl) (by kernel_rfl) (by kernel_rfl) (fun _ _ _ h => h) (Or.inl ⟨by rfl, ?hy3⟩) (by assumption) ?_
  case hy3 =>
    intro w' hSw
    try dsimp only at hSw
    obtain ⟨hS1, hS2⟩ := hSw; have hS3 := (pricer_cells hS1).1
    go_simp
    try with_reducible rfl
  try simp only [Act.put, List.setIfInBounds_toArray, List.set_cons_zero, List.set_cons_succ]
  refine wpAnyH_take (i := 4) (v := ?v4) rfl (by kernel_rfl) (by kernel_rfl) (by kernel_rfl) (fun _ _ _ h => h) (Or.inl ⟨by rfl, ?hy4⟩) (by assumption) ?_
  case hy4 =>
    intro w' hSw
    try dsimp only at hSw
    obtain ⟨hS1, hS2⟩ := hSw; have hS3 := (pricer_cells hS1).1
    go_simp
    try with_reducible rfl
  try simp only [Act.put, List.setIfInBounds_toArray, List.set_cons_zero, List.set_cons_succ]
  refine wpAnyH_take (i := 6) (v := ?v6) rfl (by kernel_rfl) (by kernel_rfl) (by kernel_rfl) (fun _ _ _ h => h) (Or.inl ⟨by rfl, ?hy6⟩) (by assumption) ?_
  case hy6 =>
    intro w' hSw
    try dsimp only at hSw
    obtain ⟨hS1, hS2⟩ := hSw; have hS3 := (pricer_cells hS1).1
    go_simp
    try with_reducible rfl
  try simp only [Act.put, List.setIfInBounds_toArray, List.set_cons_zero, List.set_cons_succ]
  refine wpAnyH_take (i := 7) rfl (by kernel_rfl) (by kernel_rfl) (by kernel_rfl) (fun _ _ _ h => h) (yieldsIf_costs (by rfl) _ rfl w.heap.size n F (.slice (some ⟨b, off, none⟩) np cp) m rfl (fun w' hw' => hw'.1)) (by assumption) ?_
  try simp only [Act.put, List.setIfInBounds_toArray, List.set_cons_zero, List.set_cons_succ]
  refine wpAnyH_take (i := 8) (v := ?v8) rfl (by kernel_rfl) (by kernel_rfl) (by kernel_rfl) (fun _ _ _ h => h) (Or.inl ⟨by rfl, ?hy8⟩) (by assumption) ?_
  case hy8 =>
    intro w' hSw
    try dsimp only at hSw
    obtain ⟨hS1, hS2⟩ := hSw; have hS3 := (pricer_cells hS1).1
    go_simp
    try with_reducible rfl
  try simp only [Act.put, List.setIfInBounds_toArray, List.set_cons_zero, List.set_cons_succ]
  refine wpAnyH_take (i := 9) (v := ?v9) rfl (by kernel_rfl) (by kernel_rfl) (by kernel_rfl) (fun _ _ _ h => h) (Or.inl ⟨by rfl, ?hy9⟩) (by assumption) ?_
  case hy9 =>
    intro w' hSw
    try dsimp only at hSw
    obtain ⟨hS1, hS2⟩ := hSw; have hS3 := (pricer_cells hS1).1
    go_simp
    try with_reducible rfl
  try simp only [Act.put, List.setIfInBounds_toArray, List.set_cons_zero, List.set_cons_succ]
  refine wpAnyH_take (i := 10) (v := ?v10) rfl (by kernel_rfl) (by kernel_rfl) (by kernel_rfl) (fun _ _ _ h => h) (Or.inl ⟨by rfl, ?hy10⟩) (by assumption) ?_
  case hy10 =>
    intro w' hSw
    try dsimp only at hSw
    obtain ⟨hS1, hS2⟩ := hSw; have hS3 := (pricer_cells hS1).1
    go_simp
    try with_reducible rfl
  try simp only [Act.put, List.setIfInBounds_toArray, List.set_cons_zero, List.set_cons_succ]
  refine wpAnyH_take (i := 11) (v := ?v11) rfl (by kernel_rfl) (by kernel_rfl) (by kernel_rfl) (fun _ _ _ h => h) (Or.inl ⟨by rfl, ?hy11⟩) (by assumption) ?_
  case hy11 =>
    intro w' hSw
    try dsimp only at hSw
    obtain ⟨hS1, hS2⟩ := hSw; have hS3 := (pricer_cells hS1).1
    go_simp
    try with_reducible rfl
  try simp only [Act.put, List.setIfInBounds_toArray, List.set_cons_zero, List.set_cons_succ]
  refine wpAnyH_take (i := 12) (v := ?v12) rfl (by kernel_rfl) (by kernel_rfl) (by kernel_rfl) (fun _ _ _ h => h) (Or.inl ⟨by rfl, ?hy12⟩) (by assumption) ?_
  case hy12 =>
    intro w' hSw
    try dsimp only at hSw
    obtain ⟨hS1, hS2⟩ := hSw; have hS3 := (pricer_cells hS1).1
    go_simp
    try with_reducible rfl
  try simp only [Act.put, List.setIfInBounds_toArray, List.set_cons_zero, List.set_cons_succ]
  refine wpAnyH_take (i := 13) (v := ?v13) rfl (by kernel_rfl) (by kernel_rfl) (by kernel_rfl) (fun _ _ _ h => h) (Or.inl ⟨by rfl, ?hy13⟩) (by assumption) ?_
  case hy13 =>
    intro w' hSw
    try dsimp only at hSw
    obtain ⟨hS1, hS2⟩ := hSw; have hS3 := (pricer_cells hS1).1
    go_simp
    try with_reducible rfl
  try simp only [Act.put, List.setIfInBounds_toArray, List.set_cons_zero, List.set_cons_succ]
  refine wpAnyH_take (i := 14) (v := ?v14) rfl (by kernel_rfl) (by kernel_rfl) (by kernel_rfl) (fun _ _ _ h => h) (Or.inl ⟨by rfl, ?hy14⟩) (by assumption) ?_
  case hy14 =>
    intro w' hSw
    try dsimp only at hSw
    obtain ⟨hS1, hS2⟩ := hSw; have hS3 := (pricer_cells hS1).1
    go_simp
    try with_reducible rfl
  try simp only [Act.put, List.setIfInBounds_toArray, List.set_cons_zero, List.set_cons_succ]
  refine wpAnyH_ready (rs := [5]) (by kernel_rfl) (by simp) (AllReadyH.cons rfl (fun K hK => ?_) AllReadyH.nil)
  go_simp
  go_at_call 48; refine (costAt_any _ n F row to hr6 ht6 x hx).mono ?_; rintro e w2 ⟨rfl, hb2⟩
  refine hK.out _ _ (⟨(hb2.block _ hl1).trans hg, (hb2.cell (World.block_lt_of_cell? _ _ hcw)).trans hcw⟩) (fun hHeld2 => ?_)
  clear hK K
  try simp only [Act.put, List.setIfInBounds_toArray, List.set_cons_zero, List.set_cons_succ]
  refine wpAnyH_ready (rs := [15]) (by kernel_rfl) (by simp) (AllReadyH.cons rfl (fun K hK => ?_) AllReadyH.nil)
  go_simp
  go_at_call 48; refine (costAt_any _ n F row own hr6 ho6 y hy).mono ?_; rintro e w3 ⟨rfl, hb3⟩
  refine hK.out _ _ (⟨(hb3.block _ (Nat.lt_of_lt_of_le hl1 hb2.size)).trans ((hb2.block _ hl1).trans hg), (hb3.cell (World.block_lt_of_cell? _ _ ((hb2.cell (World.block_lt_of_cell? _ _ hcw)).trans hcw))).trans ((hb2.cell (World.block_lt_of_cell? _ _ hcw)).trans hcw)⟩) (fun hHeld2 => ?_)
  clear hK K
  try simp only [Act.put, List.setIfInBounds_toArray, List.set_cons_zero, List.set_cons_succ]
  obtain ⟨hw1, hw2⟩ := HWR.out
  refine wpAnyH_take (i := 16) (v := ?v16) rfl (by kernel_rfl) (by kernel_rfl) (by kernel_rfl) (fun _ _ _ h => h) (Or.inl ⟨by rfl, ?hy16⟩) (by assumption) ?_
  case hy16 =>
    intro w' hSw
    try dsimp only at hSw
    obtain ⟨hS1, hS2⟩ := hSw; have hS3 := (pricer_cells hS1).1
    go_simp
    try with_reducible rfl
  try simp only [Act.put, List.setIfInBounds_toArray, List.set_cons_zero, List.set_cons_succ]
  refine wpAnyH_take (i := 17) (v := ?v17) rfl (by kernel_rfl) (by kernel_rfl) (by kernel_rfl) (fun _ _ _ h => h) (Or.inl ⟨by rfl, ?hy17⟩) (by assumption) ?_
  case hy17 =>
    intro w' hSw
    try dsimp only at hSw
    obtain ⟨hS1, hS2⟩ := hSw; have hS3 := (pricer_cells hS1).1
    go_simp
    try with_reducible rfl
  try simp only [Act.put, List.setIfInBounds_toArray, List.set_cons_zero, List.set_cons_succ]
  refine wpAnyH_done (by kernel_rfl) ?_ _
  try simp only [Act.put, List.getElem_toArray, List.getElem_cons_succ, List.getElem_cons_zero, List.setIfInBounds_toArray, List.set_cons_zero, List.set_cons_succ]
  go_wp2
  go_ret
  exact ⟨rfl, step_below (step_below HB0.out ⟨hb2.os, hb2.tape, hb2.output, hb2.size, hb2.block⟩) hb3⟩

end Go.Proofs.YtellghhilcjbnaaDoor

/-
  (impl.pricer).lengthen: each step put ahead of each way.
-/
namespace Go.Proofs.YtellghhilcjbnaaDoor
set_option linter.unusedVariables false
set_option linter.unusedSimpArgs false
open Go.RowKit
open Go.Maps (Keyed)

theorem zeroC : ∀ w : World, (zeroValue 3).run Tryd.prog w = .ok (.int .i64 0) w := fun _ => by kernel_rfl
/-- What is known of the choice. -/
structure ChoiceAt (n : Nat) (ps : List Int) : Prop where
  len : ps.length = n
  six : n ≤ 6
  own : ∀ i (h : i < ps.length), ps[i] = (ownC ps i : Int) ∧ ownC ps i < 6
theorem choiceAt {n : Nat} {ps : List Int} (h : rankB n ps = true) (h6 : n ≤ 6) : ChoiceAt n ps := by
  obtain ⟨hl, hin, -⟩ := rank_parts h
  refine ⟨hl, h6, fun i hi => ?_⟩
  have := hin _ (List.getElem_mem hi)
  have e : ps.getD i 0 = ps[i] := by simp [List.getD, hi]
  unfold ownC
  rw [e]
  omega
theorem bound_facts {c : Int} (h : -2000000 ≤ c ∧ c ≤ 2000000) : wrap64 c = c ∧ IntKind.i64.wrap c = c ∧ (Lit.int .i64 c).wf = true := by
  refine ⟨by unfold wrap64; omega, by rw [IntKind.wrap_i64]; omega, wf_i64 (by omega) (by omega)⟩

set_option maxRecDepth 100000 in
set_option maxHeartbeats 4000000 in
theorem lengthen_any (w : World) (n : Nat) (xss : List (List Int)) (hn : xss.length = n) (hci : cIn xss = true) (A : Option Addr) (cp : Nat) (ps : List Int) (hps : Ints w (.slice A n cp) ps) (hch : ChoiceAt n ps) (B m : Nat) (P : Nat → Option Int) (b : Int)
    (hM : ColMap w B P m) (hm : m ≤ 1000) (hP : BndP P b) (hb : b ≤ 1000000) :
    Calls Tryd.prog 62 #[.agg (pcells n (flat xss) (.slice A n cp) (.map (some B)))] w fun e w' => (∃ v, e = .returned v) ∧ ColMap w' B (lenI xss ps P n) (m + 36) ∧ Within B (B + 1) w w' := by
  have hBw := hM.lt
  obtain ⟨W0, hW0⟩ : ∃ W0, w.alloc (.cells (pcells n (flat xss) (.slice A n cp) (.map (some B))) 67) = W0 := ⟨_, rfl⟩
  have hb0 : Below w.heap.size w W0 := by rw [← hW0]; exact (Below.refl _ _).alloc (Nat.le_refl _) _
  have hg : W0.heap[w.heap.size]? = some (.cells (pcells n (flat xss) (.slice A n cp) (.map (some B))) 67 (0, 0)) := by rw [← hW0]; exact World.alloc_heap_new _ _
  have h6 := hch.six
  have HPS := Lib.hid (hps.below hb0)
  have HM0 := Lib.hid (hM.below hb0)
  have HB0 := Lib.hid hb0
  have HG := Lib.hid hg
  have HCH := Lib.hid hch
  have HN := Lib.hid hn
  have HCI := Lib.hid hci
  have HP := Lib.hid hP
  have HB := Lib.hid (And.intro hb hBw)
  obtain ⟨c37, c38, cf, cl⟩ := pricer_cells hg
  clear hps hM hb0 hg hch hn hci hP hb hBw
  go_enter Tryd.func62, Tryd.ntmps62
  go_wp2_with (first
    | (refine alloc_pricer rfl rfl ?_)
    | (refine store_pricer_last rfl _ _ rfl n (flat xss) (.slice A n cp) (.map (some B)) rfl rfl _ rfl rfl rfl ?_; rw [hW0]))
  clear hW0
  clear c37 c38 cf cl
  obtain ⟨g, hgs⟩ : ∃ g, w.heap.size = g := ⟨_, rfl⟩
  have HPC : Hid (∀ X : World, Within B (B + 1) W0 X → X.heap[g]? = some (.cells (pcells n (flat xss) (.slice A n cp) (.map (some B))) 67 (0, 0))) := Lib.hid fun X hX => by
    rw [← hgs]
    exact (hX.block _ (Array.getElem?_eq_some_iff.1 HG.out).1 (by have := HB.out.2; omega)).trans HG.out
  rw [hgs]
  clear hgs
  go_loopw [2, 3, 4, 5, 6, 7, 8, 12] (fun _ _ _ _ _ _ _ iv wr => ∃ i : Nat, i ≤ n ∧ iv = .int .i64 i ∧ ColMap wr B (lenI xss ps P i) (m + 6 * i) ∧ Within B (B + 1) W0 wr) (fun _ _ _ _ _ _ _ iv _ => n - (intOf iv).toNat)
  case atStart => exact ⟨0, Nat.zero_le _, rfl, HM0.out, Within.refl _ _ _⟩
  case round =>
    obtain ⟨i, hi, rfl, hM1, hW1⟩ := hrel
    by_cases hlt : i < n
    · obtain ⟨A', cap', e', hm', hc'⟩ := HM0.out.ints hW1 HPS.out
      have hil : i < ps.length := by rw [HCH.out.len]; exact hlt
      obtain ⟨b', off, hA, hcell⟩ := hc' i hil
      obtain ⟨rfl, -, rfl⟩ : A = A' ∧ n = ps.length ∧ cp = cap' := by simpa using e'
      subst hA
      obtain ⟨ho1, ho2⟩ := HCH.out.own i hil
      obtain ⟨own, hown⟩ : ∃ own, ownC ps i = own := ⟨_, rfl⟩
      rw [ho1, hown] at hcell
      rw [hown] at ho2
      have HOWN : Hid ((∃ h : i < ps.length, ps[i] = (ownC ps i : Int)) ∧ ownC ps i = own ∧ own < 6) := Lib.hid ⟨⟨hil, ho1⟩, hown, ho2⟩
      have hii : (i : Int) < (n : Int) := by omega
      have hi0 : (0 : Int) ≤ (i : Int) := by omega
      obtain ⟨c37, c38, cf, cl⟩ := pricer_cells (HPC.out _ hW1)
      obtain ⟨P1, hP1⟩ : ∃ P1, lenI xss ps P i = P1 := ⟨_, rfl⟩
      have HP1 := Lib.hid hP1
      rw [hP1] at hM1
      have HW1 := Lib.hid hW1
      have HM1 := Lib.hid hM1
      obtain ⟨wq, hwq⟩ : ∃ wq, wq = wr := ⟨_, rfl⟩
      subst hwq
      clear hc' e' hm' hP1 ho1 hown ho2 hil hM1 hW1
      go_wp2
      clear hcell c37 c38 cf cl
      go_loopw [4, 5, 6, 7, 8, 20] (fun _ _ _ _ _ jv wr => ∃ j : Nat, j ≤ n ∧ jv = .int .i64 j ∧ ColMap wr B (lenJ xss ps i P1 j) (m + 6 * i + j) ∧ Within B (B + 1) W0 wr) (fun _ _ _ _ _ jv _ => n - (intOf jv).toNat)
      case atStart => exact ⟨0, Nat.zero_le _, rfl, HM1.out, HW1.out⟩
      case round =>
        obtain ⟨j, hj, rfl, hM2, hW2⟩ := hrel
        by_cases hlj : j < n
        · obtain ⟨Q, hQ⟩ : ∃ Q, lenJ xss ps i P1 j = Q := ⟨_, rfl⟩
          have hQn : lenJ xss ps i P1 (j + 1) = lenStep xss ps Q i j := by rw [← hQ]; rfl
          have hbq : BndP Q (b + 12000 * (i : Int) + 2000 * (j : Int)) := by
            rw [← hQ, ← HP1.out]
            exact bnd_lenJ HCI.out (bnd_lenI HCI.out HP.out i) i j
          rw [hQ] at hM2
          obtain ⟨⟨hil, hoi⟩, hown, ho6⟩ := HOWN.out
          have hjj : (j : Int) < (n : Int) := by omega
          have hj0 : (0 : Int) ≤ (j : Int) := by omega
          have hps2 := HM0.out.ints hW2 HPS.out
          have hpc2 := HPC.out _ hW2
          obtain ⟨D, hoD, hrD⟩ := hM2
          obtain ⟨hhj, hvj⟩ := hrD.2.1 j (by omega)
          obtain ⟨hho, hvo⟩ := hrD.2.1 own ho6
          obtain ⟨c37, c38, cf, cl⟩ := pricer_cells hpc2
          have HOD := Lib.hid hoD
          have HRD := Lib.hid hrD
          have HW2 := Lib.hid hW2
          have HPC2 := Lib.hid hpc2
          have HQN := Lib.hid hQn
          have hij : i < n := hlt
          have hj6 : j < 6 := by omega
          have hi6 : i < 6 := by omega
          have HLJ := Lib.hid (show j + 1 ≤ n by omega)
          have hmm : m + 6 * i + j < maxLen := by unfold maxLen; omega
          have HMM := Lib.hid hmm
          cases hqj : Q j with
          | none =>
            rw [hqj] at hhj
            have hh : Maps.has D (klI j) = false := hhj
            have HNO : Hid (lenStep xss ps Q i j = Q) := Lib.hid (by unfold lenStep; rw [hqj])
            clear hhj hvj hho hvo hoD hrD hW2 hpc2 hQn hbq hQ hoi hown hil hps2 hqj hmm
            go_wp2_with (at_lookup; refine wpList_lookup_own_ok_int _ rfl _ _ 65 rfl 3 3 .i64 (Maps.int_keyed Tryd.underlying3) Tryd.underlying65 Tryd.underlying3 (zeroC _) B _ D rfl HOD.out _ (klI j) rfl (keyOf_col (by omega)) ?_; intro c hc hwc; rw [hh]; clear hc hwc)
            go_roundw
            case rel => exact ⟨j + 1, HLJ.out, by go_num, ⟨D, HOD.out.mono (by omega), by rw [HQN.out, HNO.out]; exact HRD.out⟩, HW2.out⟩
            case measure => simp [intOf]; omega
          | some way =>
            rw [hqj] at hhj
            have hh : Maps.has D (klI j) = true := hhj
            have hval := hvj way hqj
            obtain ⟨x, hx⟩ : ∃ x, flat xss (6 * i + j) = x := ⟨_, rfl⟩
            obtain ⟨y, hy⟩ : ∃ y, flat xss (6 * i + own) = y := ⟨_, rfl⟩
            obtain ⟨z, hz⟩ : ∃ z, x - y = z := ⟨_, rfl⟩
            have hst : stepC xss ps i j = z := by unfold stepC; rw [← flat_col xss i hj6, hown, ← flat_col xss i ho6, hx, hy]; exact hz
            have hsb := step_bound HCI.out ps i j
            rw [hst] at hsb
            have hwb := hbq j way hqj
            obtain ⟨c, hcc⟩ : ∃ c, way + z = c := ⟨_, rfl⟩
            have hbb := HB.out.1
            have hcb : -2000000 ≤ c ∧ c ≤ 2000000 := by omega
            obtain ⟨hw1, hw2, hwf⟩ := bound_facts hcb
            rw [← hcc] at hw1 hw2
            have HWF := Lib.hid hwf
            have HWR : Hid (wrap64 (way + z) = c ∧ IntKind.i64.wrap (way + z) = c) := Lib.hid ⟨hw1.trans hcc, hw2.trans hcc⟩
            have HSTEP := Lib.hid (fun X (hX : Ints X (.slice (some ⟨b', off, none⟩) n cp) ps) => pstep_any X n (flat xss) (some ⟨b', off, none⟩) n cp (.map (some B)) rfl ps hX i j own hil (hoi.trans (by rw [hown])) hi6 hj6 ho6 x y z hx hy hz (by omega))
            have HPS2 := Lib.hid hps2
            have HOO := Lib.hid (And.intro hho (And.intro hvo (And.intro ho6 (And.intro (hrD.2.2) hrD))))
            have HVAL := Lib.hid hval
            have HST : Hid (lenStep xss ps Q i j = (match Q own with | none => updP Q own c | some old => if c < old then updP Q own c else Q)) := Lib.hid (lenStep_some hqj hown hst hcc)
            clear hhj hvj hho hvo hoD hrD hW2 hpc2 hQn hbq hQ hoi hown hil hps2 hqj hmm hval hx hy hz hst hsb hwb hbb hcb hw1 hw2 hwf hcc
            go_wp2_with (first
              | (at_lookup; refine wpList_lookup_own_ok_int _ rfl _ _ 65 rfl 3 3 .i64 (Maps.int_keyed Tryd.underlying3) Tryd.underlying65 Tryd.underlying3 (zeroC _) B _ D rfl HOD.out _ (klI j) rfl (keyOf_col (by omega)) ?_; intro cx hc hwc; rw [HVAL.out] at hc; obtain rfl : way = cx := (by simpa using hc); clear hc hwc; rw [hh])
              | (refine load_pricer rfl _ rfl g n (flat xss) (.slice (some ⟨b', off, none⟩) n cp) (.map (some B)) rfl HPC2.out ?_))
            refine (HSTEP.out _ HPS2.out).mono ?_
            rintro e w3 ⟨rfl, hb3⟩
            have HOD3 := Lib.hid (HOD.out.kept (row := none) ⟨hb3.os, hb3.tape, hb3.output, hb3.size, fun k hk _ => hb3.block k hk⟩ (by simp))
            have HW3 : Hid (Within B (B + 1) W0 w3) := Lib.hid (HW2.out.trans ⟨hb3.os, hb3.tape, hb3.output, hb3.size, fun k hk _ => hb3.block k hk⟩)
            clear c37 c38 cf cl
            obtain ⟨c37, c38, cf, cl⟩ := pricer_cells (HPC.out _ HW3.out)
            obtain ⟨hw1, hw2⟩ := HWR.out
            obtain ⟨hho, hvo, ho6, _⟩ := HOO.out
            clear hb3
            cases hqo : Q own with
            | none =>
              rw [hqo] at hho
              have hh2 : Maps.has D (klI own) = false := hho
              have HNX : Hid (lenStep xss ps Q i j = updP Q own c) := Lib.hid (by rw [HST.out, hqo])
              clear hho hvo hqo
              go_wp2_with (first
                | (at_lookup; refine wpList_lookup_own_ok_int _ rfl _ _ 65 rfl 3 3 .i64 (Maps.int_keyed Tryd.underlying3) Tryd.underlying65 Tryd.underlying3 (zeroC _) B _ D rfl HOD3.out _ (klI own) rfl (keyOf_col (by omega)) ?_; intro cx hc hwc; rw [hh2]; clear hc hwc)
                | (at_mapUpdate; refine wpList_mapUpdate_own _ rfl _ _ _ 65 rfl 3 3 (Maps.int_keyed Tryd.underlying3) Tryd.underlying65 _ B _ D rfl HOD3.out HMM.out _ _ (klI own) rfl rfl (keyOf_col (by omega)) (.lit (.int .i64 c)) [] (plainElem_int Tryd.underlying3 HWF.out) ?_; intro w4 hown4 hgrow4))
              have HN4 : Hid (ColMap w4 B (lenJ xss ps i P1 (j + 1)) (m + 6 * i + (j + 1)) ∧ Within B (B + 1) W0 w4) := Lib.hid ⟨⟨_, hown4, by rw [HQN.out, HNX.out]; exact colRead_put HRD.out ho6 c⟩, HW3.out.trans (Within.of_grown hgrow4 (fun k hk => by cases hk; omega))⟩
              clear hown4 hgrow4
              go_roundw
              case rel => exact ⟨j + 1, HLJ.out, by go_num, HN4.out⟩
              case measure => simp [intOf]; omega
            | some old =>
              rw [hqo] at hho
              have hh2 : Maps.has D (klI own) = true := hho
              have HVO := Lib.hid (hvo old hqo)
              by_cases hlo : c < old
              · have HNX : Hid (lenStep xss ps Q i j = updP Q own c) := Lib.hid (by rw [HST.out, hqo]; exact if_pos hlo)
                clear hho hvo hqo
                go_wp2_with (first
                  | (at_lookup; refine wpList_lookup_own_ok_int _ rfl _ _ 65 rfl 3 3 .i64 (Maps.int_keyed Tryd.underlying3) Tryd.underlying65 Tryd.underlying3 (zeroC _) B _ D rfl HOD3.out _ (klI own) rfl (keyOf_col (by omega)) ?_; intro cx hc hwc; rw [HVO.out] at hc; obtain rfl : old = cx := (by simpa using hc); clear hc hwc; rw [hh2])
                  | (at_mapUpdate; refine wpList_mapUpdate_own _ rfl _ _ _ 65 rfl 3 3 (Maps.int_keyed Tryd.underlying3) Tryd.underlying65 _ B _ D rfl HOD3.out HMM.out _ _ (klI own) rfl rfl (keyOf_col (by omega)) (.lit (.int .i64 c)) [] (plainElem_int Tryd.underlying3 HWF.out) ?_; intro w4 hown4 hgrow4))
                have HN4 : Hid (ColMap w4 B (lenJ xss ps i P1 (j + 1)) (m + 6 * i + (j + 1)) ∧ Within B (B + 1) W0 w4) := Lib.hid ⟨⟨_, hown4, by rw [HQN.out, HNX.out]; exact colRead_put HRD.out ho6 c⟩, HW3.out.trans (Within.of_grown hgrow4 (fun k hk => by cases hk; omega))⟩
                clear hown4 hgrow4
                go_roundw
                case rel => exact ⟨j + 1, HLJ.out, by go_num, HN4.out⟩
                case measure => simp [intOf]; omega
              · have HNX : Hid (lenStep xss ps Q i j = Q) := Lib.hid (by rw [HST.out, hqo]; exact if_neg hlo)
                clear hho hvo hqo
                go_wp2_with (at_lookup; refine wpList_lookup_own_ok_int _ rfl _ _ 65 rfl 3 3 .i64 (Maps.int_keyed Tryd.underlying3) Tryd.underlying65 Tryd.underlying3 (zeroC _) B _ D rfl HOD3.out _ (klI own) rfl (keyOf_col (by omega)) ?_; intro cx hc hwc; rw [HVO.out] at hc; obtain rfl : old = cx := (by simpa using hc); clear hc hwc; rw [hh2])
                go_roundw
                case rel => exact ⟨j + 1, HLJ.out, by go_num, ⟨D, HOD3.out.mono (by omega), by rw [HQN.out, HNX.out]; exact HRD.out⟩, HW3.out⟩
                case measure => simp [intOf]; omega
        · obtain rfl : j = n := by omega
          have HN2 : Hid (ColMap wr B (lenI xss ps P (i + 1)) (m + 6 * (i + 1)) ∧ Within B (B + 1) W0 wr) := Lib.hid ⟨by
            have e : lenI xss ps P (i + 1) = lenJ xss ps i P1 j := by rw [← HP1.out, ← HN.out]; rfl
            rw [e]
            exact hM2.mono (by omega), hW2⟩
          clear hM2 hW2
          go_wp2
          go_roundw
          case rel => exact ⟨i + 1, by omega, by go_num, HN2.out⟩
          case measure => simp [intOf]; omega
    · obtain rfl : i = n := by omega
      have hb := HB0.out
      have HE : Hid (ColMap wr B (lenI xss ps P i) (m + 36) ∧ Within B (B + 1) w wr) := Lib.hid ⟨hM1.mono (by omega), ⟨hW1.os.trans hb.os, hW1.tape.trans hb.tape, hW1.output.trans hb.output, Nat.le_trans hb.size hW1.size, fun k hk ho => (hW1.block k (Nat.lt_of_lt_of_le hk hb.size) ho).trans (hb.block k hk)⟩⟩
      clear hM1 hW1 hb
      go_wp2
      go_end0
      exact ⟨⟨_, rfl⟩, HE.out⟩

end Go.Proofs.YtellghhilcjbnaaDoor

/-
  (impl.pricer).ask: the price of a column.
-/
namespace Go.Proofs.YtellghhilcjbnaaDoor
set_option linter.unusedVariables false
set_option linter.unusedSimpArgs false
open Go.RowKit
open Go.Maps (Keyed)

theorem Within.growing {lo hi r : Nat} {w W W1 : World} (h : Within lo hi w W) (hg : W.grownBy W1 (some r)) (hr : w.heap.size ≤ r) : Within lo hi w W1 :=
  ⟨hg.os.trans h.os, hg.tape.trans h.tape, hg.output.trans h.output, Nat.le_trans h.size hg.size,
    fun k hk ho => (hg.block k (Nat.lt_of_lt_of_le hk h.size) (fun e => by cases e; omega)).trans (h.block k hk ho)⟩
theorem Within.grow0 {lo hi : Nat} {w W W1 : World} (h : Within lo hi w W) (hg : W.grownBy W1 none) : Within lo hi w W1 :=
  ⟨hg.os.trans h.os, hg.tape.trans h.tape, hg.output.trans h.output, Nat.le_trans h.size hg.size,
    fun k hk ho => (hg.block k (Nat.lt_of_lt_of_le hk h.size) (by simp)).trans (h.block k hk ho)⟩
theorem Within.grow1 {b : Nat} {w W W1 : World} (h : Within b (b + 1) w W) (hg : W.grownBy W1 (some b)) : Within b (b + 1) w W1 :=
  ⟨hg.os.trans h.os, hg.tape.trans h.tape, hg.output.trans h.output, Nat.le_trans h.size hg.size,
    fun k hk ho => (hg.block k (Nat.lt_of_lt_of_le hk h.size) (fun e => by cases e; omega)).trans (h.block k hk ho)⟩
theorem less_facts {n e : Nat} (h : n - 1 = e) (h1 : 1 ≤ n) (h6 : n ≤ 6) : wrap64 ((n : Int) - 1) = (e : Int) ∧ IntKind.i64.wrap ((n : Int) - 1) = (e : Int) ∧ (n : Int) - 1 = (e : Int) := by
  refine ⟨by unfold wrap64; omega, by rw [IntKind.wrap_i64]; omega, by omega⟩

set_option maxRecDepth 100000 in
set_option maxHeartbeats 4000000 in
theorem ask_any (w : World) (n : Nat) (xss : List (List Int)) (hn : xss.length = n) (h1 : 1 ≤ n) (hci : cIn xss = true) (A : Option Addr) (cp : Nat) (ps : List Int) (hps : Ints w (.slice A n cp) ps) (hch : ChoiceAt n ps) (hL : LeastP xss ps) (B m : Nat) (P0 : Nat → Option Int)
    (hM : ColMap w B P0 m) (t : Nat) (ht : t < n) (z : Int) (hz : (relK xss ps n).getD t 0 = z) :
    Calls Tryd.prog 50 #[.agg (pcells n (flat xss) (.slice A n cp) (.map (some B))), .int .i64 (t : Int)] w fun e w' => e = .returned (.int .i64 z) ∧ (∃ P1 m1, ColMap w' B P1 m1) ∧ Within B (B + 1) w w' := by
  have hBw := hM.lt
  obtain ⟨W0, hW0⟩ : ∃ W0, w.alloc (.cells (pcells n (flat xss) (.slice A n cp) (.map (some B))) 67) = W0 := ⟨_, rfl⟩
  have hb0 : Below w.heap.size w W0 := by rw [← hW0]; exact (Below.refl _ _).alloc (Nat.le_refl _) _
  have hg : W0.heap[w.heap.size]? = some (.cells (pcells n (flat xss) (.slice A n cp) (.map (some B))) 67 (0, 0)) := by rw [← hW0]; exact World.alloc_heap_new _ _
  have hask := ask_price hL (t := t) (by omega)
  have hlow := price_low hci hL (b := t) (by omega)
  rw [hn, hz] at hask hlow
  have h6 := hch.six
  have HASK := Lib.hid (And.intro hask hlow)
  have HPS := Lib.hid (hps.below hb0)
  have HMB := Lib.hid (hM.below hb0)
  obtain ⟨D0, hoD, -⟩ := hM.below hb0
  have HOD := Lib.hid hoD
  have HB0 := Lib.hid hb0
  have HG := Lib.hid hg
  have HCH := Lib.hid hch
  have HN := Lib.hid hn
  have HCI := Lib.hid hci
  have HBW := Lib.hid hBw
  have ht6 : t < 6 := by omega
  have HZ := Lib.hid hz
  have HPX : Hid (∀ X : World, Within B (B + 1) W0 X → X.heap[w.heap.size]? = some (.cells (pcells n (flat xss) (.slice A n cp) (.map (some B))) 67 (0, 0))) := Lib.hid fun X hX =>
    (hX.block _ (Array.getElem?_eq_some_iff.1 hg).1 (by omega)).trans hg
  obtain ⟨c37, c38, cf, cl⟩ := pricer_cells hg
  obtain ⟨e, he⟩ : ∃ e, n - 1 = e := ⟨_, rfl⟩
  obtain ⟨hw1, hw2, hw3⟩ := less_facts he h1 h6
  have he5 : e ≤ 5 := by omega
  have HE := Lib.hid he
  clear hps hM hb0 hg hch hn hci hBw hL hask hlow hoD ht hz he
  go_enter Tryd.func50, Tryd.ntmps50
  go_wp2_with (first
    | (refine alloc_pricer rfl rfl ?_)
    | (refine store_pricer_last rfl _ _ rfl n (flat xss) (.slice A n cp) (.map (some B)) rfl rfl _ rfl rfl rfl ?_; rw [hW0])
    | (refine wpList_clear_own _ rfl (.tmp 9) 65 rfl 3 3 Tryd.underlying65 _ B _ D0 rfl HOD.out ?_; intro w1 ho1 hg1; have hW1 := (Within.refl B (B + 1) W0).grow1 hg1; obtain ⟨d37, d38, _, _⟩ := pricer_cells (HPX.out _ hW1))
    | (at_mapUpdate; refine wpList_mapUpdate_own _ rfl _ _ _ 65 rfl 3 3 (Maps.int_keyed Tryd.underlying3) Tryd.underlying65 _ B 0 _ rfl ho1 (by unfold maxLen; omega) _ _ (klI t) rfl rfl (keyOf_col (by omega)) (.lit (.int .i64 0)) [] (plainElem_int Tryd.underlying3 (by decide)) ?_; intro w2 ho2 hg2; have hW2 := hW1.grow1 hg2; obtain ⟨e37, e38, _, _⟩ := pricer_cells (HPX.out _ hW2)))
  clear hW0 c37 c38 cf cl d37 d38 e37 e38
  have HI2 : Hid (ColMap w2 B (lenK xss ps t 0) (1 + 36 * 0) ∧ Within B (B + 1) W0 w2) := Lib.hid ⟨⟨_, ho2, colRead_put colRead_empty (by omega) 0⟩, hW2⟩
  clear ho1 hg1 hW1 ho2 hg2 hW2
  clear hw1 hw2 hw3
  obtain ⟨g, hgs⟩ : ∃ g, w.heap.size = g := ⟨_, rfl⟩
  have HPC : Hid (∀ X : World, Within B (B + 1) W0 X → X.heap[g]? = some (.cells (pcells n (flat xss) (.slice A n cp) (.map (some B))) 67 (0, 0))) := Lib.hid fun X hX => by
    rw [← hgs]
    exact HPX.out X hX
  rw [hgs]
  clear hgs HPX
  go_loopw [17] (fun iv wr => ∃ k : Nat, k ≤ e ∧ iv = .int .i64 k ∧ ColMap wr B (lenK xss ps t k) (1 + 36 * k) ∧ Within B (B + 1) W0 wr) (fun iv _ => e - (intOf iv).toNat)
  case atStart => exact ⟨0, Nat.zero_le _, rfl, HI2.out⟩
  case round =>
    obtain ⟨k, hk, rfl, hMk, hWk⟩ := hrel
    by_cases hlt : k < e
    · have hke : (k : Int) < (e : Int) := by omega
      have hpk := HPC.out _ hWk
      have HPK := Lib.hid hpk
      have HLEN := Lib.hid (lengthen_any wr n xss HN.out HCI.out A cp ps (HMB.out.ints hWk HPS.out) HCH.out B (1 + 36 * k) (lenK xss ps t k) (72000 * (k : Int)) hMk (by have := HE.out; omega) (bnd_lenK HCI.out ps t k) (by have := HE.out; omega))
      have HWK := Lib.hid hWk
      clear hMk hWk hpk
      go_wp2_with (refine load_pricer rfl _ rfl g n (flat xss) (.slice A n cp) (.map (some B)) rfl HPK.out ?_)
      refine HLEN.out.mono ?_
      rintro e3 w3 ⟨⟨v, rfl⟩, hM3, hW3⟩
      have HN3 : Hid (ColMap w3 B (lenK xss ps t (k + 1)) (1 + 36 * (k + 1)) ∧ Within B (B + 1) W0 w3) := Lib.hid ⟨by
        have e5 : lenK xss ps t (k + 1) = lenI xss ps (lenK xss ps t k) n := by rw [← HN.out]; rfl
        rw [e5]
        exact hM3.mono (by omega), HWK.out.trans hW3⟩
      clear hM3 hW3
      go_wp2
      go_roundw
      case rel => exact ⟨k + 1, by omega, by go_num, HN3.out⟩
      case measure => simp [intOf]; omega
    · obtain rfl : k = e := by omega
      obtain ⟨c37, c38, cf, cl⟩ := pricer_cells (HPC.out _ hWk)
      obtain ⟨D, hoD, hrD⟩ := hMk
      have HO := Lib.hid hoD
      have HR := Lib.hid hrD
      have HWK := Lib.hid hWk
      obtain ⟨wq, hwq⟩ : ∃ wq, wq = wr := ⟨_, rfl⟩
      subst hwq
      clear hoD hrD hWk
      go_wp2_with (at_range; refine wpList_range_own _ rfl _ 65 rfl 3 3 (Maps.int_keyed Tryd.underlying3) Tryd.underlying65 _ B _ D rfl HO.out ?_; intro w5 hrg0 hg0 hs0)
      go_frame
      clear c37 c38 cf cl
      have HPK2 : Hid (∀ left, SeenTo D (lenK xss ps t k) left = SeenTo D (lenK xss ps t k) left) := Lib.hid fun _ => rfl
      have HI5 : Hid (SeenTo D (lenK xss ps t k) (Maps.has D) 0 ∧ Within B (B + 1) W0 w5) := Lib.hid ⟨seen_begin HR.out, HWK.out.grow0 hg0⟩
      obtain ⟨r, hr⟩ : ∃ r, wq.heap.size = r := ⟨_, rfl⟩
      have HRZ : Hid (W0.heap.size ≤ r) := Lib.hid (by rw [← hr]; exact HWK.out.size)
      rw [hr] at hrg0 ⊢
      have HRG0 := Lib.hid hrg0
      clear hg0 hs0 hr hrg0 HPK2
      go_loopw [5, 7] (fun lv _ wr => ∃ (left : Lit → Bool) (cnt : Nat) (s : Int), lv = .int .i64 s ∧ wr.ranges Tryd.prog 3 (plainElem Tryd.prog 3) B r (1 + 36 * k) D left cnt ∧ SeenTo D (lenK xss ps t k) left s ∧ Within B (B + 1) W0 wr) (fun _ _ wr => wr.rangeLeft B r)
      case atStart => exact ⟨_, _, 0, rfl, HRG0.out, HI5.out⟩
      case round =>
        obtain ⟨left, cnt, s, rfl, hrg, hseen, hW6⟩ := hrel
        have HSN := Lib.hid hseen
        have HW6 := Lib.hid hW6
        clear hseen hW6
        go_wp2_with (at_next; refine wpList_next_ranges_ii _ rfl _ rfl 3 3 .i64 .i64 (Maps.int_keyed Tryd.underlying3) Tryd.underlying3 Tryd.underlying3 B r _ _ _ _ rfl hrg ?_ ?_)
        · intro _ hl0
          have hsz := seen_done HSN.out hl0 (fun a v hv => HASK.out.1.1 a v (by rw [HE.out]; exact hv)) HASK.out.2.2 (by
            obtain ⟨a, ha, hp⟩ := HASK.out.1.2
            exact ⟨a, by omega, by rw [← hp, HE.out]⟩)
          have HEND : Hid (s = z ∧ (∃ P1 m1, ColMap wr B P1 m1) ∧ Within B (B + 1) w wr) := Lib.hid ⟨hsz, ⟨_, _, D, hrg.owns, HR.out⟩, by
            have hb := HB0.out
            have h := HW6.out
            exact ⟨h.os.trans hb.os, h.tape.trans hb.tape, h.output.trans hb.output, Nat.le_trans hb.size h.size, fun q hq ho => (h.block q (Nat.lt_of_lt_of_le hq hb.size) ho).trans (hb.block q hq)⟩⟩
          clear hsz hl0 hrg
          go_wp2
          go_ret
          exact ⟨by rw [HEND.out.1]; rfl, HEND.out.2⟩
        · intro x c w1 cnt1 hwx hwc hlx hat hrg1 hlt1 hg1 hs1 hen
          obtain ⟨nw, hnw⟩ : ∃ nw, min s c = nw := ⟨_, rfl⟩
          have hmm : (if c < s then c else s) = nw := by rw [← hnw]; omega
          have HN1 : Hid (w1.ranges Tryd.prog 3 (plainElem Tryd.prog 3) B r (1 + 36 * k) D (fun z => left z && !z.sameKey (.int .i64 x)) cnt1 ∧ SeenTo D (lenK xss ps t k) (fun z => left z && !z.sameKey (.int .i64 x)) nw ∧ Within B (B + 1) W0 w1) := Lib.hid ⟨hrg1, by rw [← hnw]; exact seen_next HR.out HSN.out hlx hat, HW6.out.growing hg1 HRZ.out⟩
          have HM1 : Hid (w1.rangeLeft B r < wr.rangeLeft B r) := Lib.hid (by rw [hrg1.left_eq, hrg.left_eq]; exact hlt1)
          clear hwx hwc hlx hat hrg1 hlt1 hg1 hs1 hrg hnw
          go_wp2
          go_roundw
          case rel => exact ⟨_, cnt1, nw, rfl, HN1.out⟩
          case measure => exact HM1.out

end Go.Proofs.YtellghhilcjbnaaDoor

/-
  Prices written row by row, each with its column's. Plain functions.
-/
namespace Go.Proofs.YtellghhilcjbnaaDoor
set_option linter.unusedVariables false
set_option linter.unusedSimpArgs false
open Go.RowKit

/-- What the list of prices holds after k rows. -/
def pqS (xss : List (List Int)) (ps f : List Int) (n : Nat) : Nat → List Int
  | 0 => List.replicate (2 * n) 0
  | k + 1 => ((pqS xss ps f n k).set k (colC xss k (ownC ps k) - f.getD (ownC ps k) 0)).set (n + ownC ps k) (f.getD (ownC ps k) 0)
theorem pqS_len (xss : List (List Int)) (ps f : List Int) (n : Nat) : ∀ k, (pqS xss ps f n k).length = 2 * n
  | 0 => by simp [pqS]
  | k + 1 => by simp [pqS, pqS_len xss ps f n k]
theorem pqS_row {xss : List (List Int)} {ps f : List Int} {n j : Nat} : ∀ k, k ≤ n → j < k → (pqS xss ps f n k).getD j 0 = colC xss j (ownC ps j) - f.getD (ownC ps j) 0
  | k + 1, hk, hj => by
    have hl := pqS_len xss ps f n k
    unfold pqS
    rw [List.getD_eq_getElem?_getD, List.getElem?_set_ne (by omega)]
    by_cases e : j = k
    · subst e
      rw [List.getElem?_set_self (by omega)]; rfl
    · rw [List.getElem?_set_ne (by omega), ← List.getD_eq_getElem?_getD]
      exact pqS_row k (by omega) (by omega)
theorem pqS_col {xss : List (List Int)} {ps f : List Int} {n i : Nat} (hown : ∀ i, i < n → ownC ps i < n) : ∀ k, k ≤ n → i < k → (pqS xss ps f n k).getD (n + ownC ps i) 0 = f.getD (ownC ps i) 0
  | k + 1, hk, hi => by
    have hl := pqS_len xss ps f n k
    have h1 := hown k (by omega)
    have h2 := hown i (by omega)
    unfold pqS
    by_cases e : ownC ps k = ownC ps i
    · rw [e, List.getD_eq_getElem?_getD, List.getElem?_set_self (by rw [List.length_set]; omega)]; rfl
    · rw [List.getD_eq_getElem?_getD, List.getElem?_set_ne (by omega), List.getElem?_set_ne (by omega), ← List.getD_eq_getElem?_getD]
      have : i ≠ k := fun h => e (by rw [h])
      exact pqS_col hown k (by omega) (by omega)
theorem pqS_end {xss : List (List Int)} (hc : cIn xss = true) : pqS xss (lqOf xss) (relK xss (lqOf xss) xss.length) xss.length xss.length = pqOf xss := by
  have hr := (least_p hc).1
  have hl := pq_len hc
  refine List.ext_getElem (by rw [pqS_len, hl]) fun j h1 h2 => ?_
  rw [pqS_len] at h1
  have e1 : ∀ (l : List Int) (h : j < l.length), l[j] = l.getD j 0 := fun l h => by simp [List.getD, h]
  rw [e1, e1]
  by_cases hj : j < xss.length
  · rw [pqS_row _ (Nat.le_refl _) hj, pq_row hc hj]
  · obtain ⟨c, rfl⟩ : ∃ c, j = xss.length + c := ⟨j - xss.length, by omega⟩
    obtain ⟨i, hi, rfl⟩ := own_onto hr (c := c) (by omega)
    rw [pqS_col (fun _ h => own_lt hr h) _ (Nat.le_refl _) hi, pq_col hc (own_lt hr hi)]

end Go.Proofs.YtellghhilcjbnaaDoor

/-
  (impl.pricer).list: the prices of the rows, then those of the columns.
-/
namespace Go.Proofs.YtellghhilcjbnaaDoor
set_option linter.unusedVariables false
set_option linter.unusedSimpArgs false
open Go.RowKit

theorem load_costs {ops : Array Oper} {rest : List Oper} {o : Oper} {a : Act} {w : World} {Q : Exit → Act → World → Prop} (hgd : o.guard = none) (x : Operand) (ho : o.op = .load 49 x)
    (g n : Nat) (F : Nat → Int) (c m : Value) (hx : a.eval x = .pointer (some ⟨g, 0, none⟩)) (hg : w.heap[g]? = some (.cells (pcells n F c m) 67 (0, 0)))
    (h : wpList Tryd.prog ops Q rest (a.put o.dst (.agg (tcells n F))) w) : wpList Tryd.prog ops Q (o :: rest) a w := by
  refine wpList_plain hgd fun K hK => ?_
  unfold Oper.wp
  simp only [ho, execOp, hx, Sem.run_bind, run_loadAt_costs hg, Result.andThen_ok, Sem.run_pure]
  exact hK _ _ h
theorem Within.setNew {lo hi : Nat} {w W : World} (h : Within lo hi w W) {p : Addr} (hp : w.heap.size ≤ p.block) (v : Value) : Within lo hi w (W.setCell p v) := by
  have b := (Below.refl w.heap.size W).setCell (p := p) hp v
  exact ⟨b.os.trans h.os, b.tape.trans h.tape, b.output.trans h.output, Nat.le_trans h.size b.size, fun k hk ho => (b.block k hk).trans (h.block k hk ho)⟩
theorem owns_withinP {W W' : World} {r lo n : Nat} {v : Value} {cs : List Value} (h : W.ownsRow lo 3 1 v n cs) (hw : Within r (r + 1) W W') (hr : r < lo) : W'.ownsRow lo 3 1 v n cs :=
  ((OwnsAt.of h).kept hw (.inr hr)).1
theorem ColMap.setCell {w : World} {B m : Nat} {P : Nat → Option Int} (h : ColMap w B P m) {p : Addr} (hp : B ≠ p.block) (v : Value) : ColMap (w.setCell p v) B P m := by
  obtain ⟨D, ho, hr⟩ := h
  exact ⟨D, ho.setCell hp v, hr⟩
theorem twice_facts {n N : Nat} (h : 2 * n = N) (h6 : n ≤ 6) : wrap64 (2 * (n : Int)) = (N : Int) ∧ IntKind.i64.wrap (2 * (n : Int)) = (N : Int) ∧ 2 * (n : Int) = (N : Int) := by
  refine ⟨by unfold wrap64; omega, by rw [IntKind.wrap_i64]; omega, by omega⟩
theorem plus_facts {n m s : Nat} (h : n + m = s) (h6 : n ≤ 6) (hm : m ≤ 6) : wrap64 ((n : Int) + (m : Int)) = (s : Int) ∧ IntKind.i64.wrap ((n : Int) + (m : Int)) = (s : Int) ∧ (n : Int) + (m : Int) = (s : Int) := by
  refine ⟨by unfold wrap64; omega, by rw [IntKind.wrap_i64]; omega, by omega⟩
theorem vals_set (xs : List Int) (k : Nat) (x : Int) : (vals xs).set k (.int .i64 x) = vals (xs.set k x) := by simp [vals, List.map_set]

set_option maxRecDepth 100000 in
set_option maxHeartbeats 4000000 in
theorem plist_any (w : World) (n : Nat) (xss : List (List Int)) (hn : xss.length = n) (h1 : 1 ≤ n) (hci : cIn xss = true) (A : Option Addr) (cp : Nat) (ps : List Int) (hps : Ints w (.slice A n cp) ps) (hch : ChoiceAt n ps) (hL : LeastP xss ps) (B m : Nat) (P0 : Nat → Option Int)
    (hM : ColMap w B P0 m) (N : Nat) (hN : 2 * n = N) :
    Calls Tryd.prog 32 #[.agg (pcells n (flat xss) (.slice A n cp) (.map (some B)))] w fun e w' => e = .returned (.slice (some ⟨w.heap.size + 1, 0, none⟩) N N) ∧ w'.ownsRow (w.heap.size + 1) 3 1 (.slice (some ⟨w.heap.size + 1, 0, none⟩) N N) N (vals (pqS xss ps (relK xss ps n) n n)) ∧ Within B (B + 1) w w' := by
  have hBw := hM.lt
  obtain ⟨W0, hW0⟩ : ∃ W0, w.alloc (.cells (pcells n (flat xss) (.slice A n cp) (.map (some B))) 67) = W0 := ⟨_, rfl⟩
  have hb0 : Below w.heap.size w W0 := by rw [← hW0]; exact (Below.refl _ _).alloc (Nat.le_refl _) _
  have hs0 : W0.heap.size = w.heap.size + 1 := by rw [← hW0]; simp
  have hg : W0.heap[w.heap.size]? = some (.cells (pcells n (flat xss) (.slice A n cp) (.map (some B))) 67 (0, 0)) := by rw [← hW0]; exact World.alloc_heap_new _ _
  have h6 := hch.six
  have hlow := fun t (ht : t < n) => price_low hci hL (b := t) (by omega)
  rw [hn] at hlow
  have HLOW := Lib.hid hlow
  have HL := Lib.hid hL
  have HPS := Lib.hid (hps.below hb0)
  have HMB := Lib.hid (hM.below hb0)
  have HB0 := Lib.hid hb0
  have HCH := Lib.hid hch
  have HN := Lib.hid hn
  have HCI := Lib.hid hci
  have HBW := Lib.hid hBw
  have HS0 := Lib.hid hs0
  obtain ⟨hw1, hw2, hw3⟩ := twice_facts hN h6
  have hN12 : N ≤ 12 := by omega
  have HNN := Lib.hid hN
  have hmk := fun W => run_make_row' (P := Tryd.prog) 24 3 (.int .i64 0) 8 Tryd.underlying24 infoInt rfl .i64 .i64 N (by omega) (by omega) W
  have HPX : Hid (∀ X : World, Within B (B + 1) W0 X → X.heap[w.heap.size]? = some (.cells (pcells n (flat xss) (.slice A n cp) (.map (some B))) 67 (0, 0))) := Lib.hid fun X hX =>
    (hX.block _ (Array.getElem?_eq_some_iff.1 hg).1 (by omega)).trans hg
  obtain ⟨c37, c38, cf, cl⟩ := pricer_cells hg
  clear hps hM hb0 hch hn hci hBw hL hs0 hN hlow
  go_enter Tryd.func32, Tryd.ntmps32
  go_wp2_with (first
    | (refine alloc_pricer rfl rfl ?_)
    | (refine store_pricer_last rfl _ _ rfl n (flat xss) (.slice A n cp) (.map (some B)) rfl rfl _ rfl rfl rfl ?_; rw [hW0]))
  clear hW0 c37 c38 cf cl hw1 hw2 hw3 hmk
  have hI0 : (W0.alloc (.cells (madeCells #[Value.int .i64 0] N) 3)).ownsRow W0.heap.size 3 1 (.slice (some ⟨W0.heap.size, 0, none⟩) N N) N (vals (pqS xss ps (relK xss ps n) n 0)) := by
    have := World.ownsRow_lit (base := W0.heap.size) (e := 3) (size := 1) W0 (madeCells #[Value.int .i64 0] N) N (Nat.le_refl _) (by unfold maxLen; omega) (by simp [madeCells])
    rw [toList_madeCells_one] at this
    unfold pqS
    rw [HNN.out]
    simpa [vals] using this
  have hWA : Within B (B + 1) W0 (W0.alloc (.cells (madeCells #[Value.int .i64 0] N) 3)) := (Within.refl B (B + 1) W0).grow0 (World.grownBy_alloc W0 _ none)
  have HI0 := Lib.hid (And.intro hI0 (And.intro (HMB.out.below ((Below.refl _ _).alloc (Nat.le_refl _) _) : ColMap (W0.alloc (.cells (madeCells #[Value.int .i64 0] N) 3)) B P0 m) hWA))
  clear hI0 hWA hg
  obtain ⟨g, hgs⟩ : ∃ g, w.heap.size = g := ⟨_, rfl⟩
  obtain ⟨g1, hgs1⟩ : ∃ g1, W0.heap.size = g1 := ⟨_, rfl⟩
  have HPC : Hid (∀ X : World, Within B (B + 1) W0 X → X.heap[g]? = some (.cells (pcells n (flat xss) (.slice A n cp) (.map (some B))) 67 (0, 0))) := Lib.hid fun X hX => by
    rw [← hgs]
    exact HPX.out X hX
  have HG := Lib.hid (And.intro hgs hgs1)
  have hBg1 : B < g1 := by have := HBW.out; have := HS0.out; omega
  rw [hgs1] at HI0 ⊢
  rw [hgs]
  clear hgs hgs1 HPX
  go_loopw [5, 6, 7, 17] (fun _ _ _ iv wr => ∃ i : Nat, i ≤ n ∧ iv = .int .i64 i ∧ wr.ownsRow g1 3 1 (.slice (some ⟨g1, 0, none⟩) N N) N (vals (pqS xss ps (relK xss ps n) n i)) ∧ (∃ P m, ColMap wr B P m) ∧ Within B (B + 1) W0 wr) (fun _ _ _ iv _ => n - (intOf iv).toNat)
  case atStart => exact ⟨0, Nat.zero_le _, rfl, HI0.out.1, ⟨_, _, HI0.out.2.1⟩, HI0.out.2.2⟩
  case round =>
    obtain ⟨i, hi, rfl, ho, ⟨P1, m1, hM1⟩, hW1⟩ := hrel
    by_cases hlt : i < n
    · obtain ⟨A', cap', e', hm', hc'⟩ := HMB.out.ints hW1 HPS.out
      have hil : i < ps.length := by rw [HCH.out.len]; exact hlt
      obtain ⟨b', off, hA, hcell⟩ := hc' i hil
      obtain ⟨rfl, -, rfl⟩ : A = A' ∧ n = ps.length ∧ cp = cap' := by simpa using e'
      subst hA
      obtain ⟨ho1, ho2⟩ := HCH.out.own i hil
      have hon : ownC ps i < n := by have := own_lt HL.out.1 (i := i) (by rw [HN.out]; exact hlt); rw [HN.out] at this; exact this
      have hsucc : pqS xss ps (relK xss ps n) n (i + 1) = ((pqS xss ps (relK xss ps n) n i).set i (colC xss i (ownC ps i) - (relK xss ps n).getD (ownC ps i) 0)).set (n + ownC ps i) ((relK xss ps n).getD (ownC ps i) 0) := rfl
      obtain ⟨own, hown⟩ : ∃ own, ownC ps i = own := ⟨_, rfl⟩
      rw [ho1, hown] at hcell
      rw [hown] at ho2 hon hsucc
      obtain ⟨z, hz⟩ : ∃ z, (relK xss ps n).getD own 0 = z := ⟨_, rfl⟩
      obtain ⟨y, hy⟩ : ∃ y, flat xss (6 * i + own) = y := ⟨_, rfl⟩
      have hyc : colC xss i own = y := by rw [← hy, flat_col xss i ho2]
      have hyb := colC_bound HCI.out i own
      have hzb := HLOW.out own hon
      rw [hyc] at hyb hsucc
      rw [hz] at hzb hsucc
      obtain ⟨d, hd⟩ : ∃ d, y - z = d := ⟨_, rfl⟩
      rw [hd] at hsucc
      obtain ⟨sm, hsm⟩ : ∃ sm, n + own = sm := ⟨_, rfl⟩
      rw [hsm] at hsucc
      have HWR : Hid (wrap64 (y - z) = d ∧ IntKind.i64.wrap (y - z) = d) := Lib.hid (by rw [hd]; exact ⟨by unfold wrap64; omega, by rw [IntKind.wrap_i64]; omega⟩)
      have HWS := Lib.hid (plus_facts hsm h6 (by omega))
      have hsmN : sm < N := by have := HNN.out; omega
      have hiN : i < N := by have := HNN.out; omega
      obtain ⟨L, hL⟩ : ∃ L, pqS xss ps (relK xss ps n) n i = L := ⟨_, rfl⟩
      rw [hL] at ho hsucc
      have HSU := Lib.hid hsucc
      have HAK := Lib.hid (ask_any wr n xss HN.out h1 HCI.out (some ⟨b', off, none⟩) cp ps (HMB.out.ints hW1 HPS.out) HCH.out HL.out B m1 P1 hM1 own hon z hz)
      have HCAT := Lib.hid (fun X => costAt_any X n (flat xss) i own (by omega) ho2 y hy)
      have hii : (i : Int) < (n : Int) := by omega
      have hi0 : (0 : Int) ≤ (i : Int) := by omega
      obtain ⟨c37, c38, cf, cl⟩ := pricer_cells (HPC.out _ hW1)
      have HPC1 := Lib.hid (HPC.out _ hW1)
      have HO := Lib.hid ho
      have HW1 := Lib.hid hW1
      clear hc' e' hm' ho1 hown hon hil hM1 hW1 ho hz hy hyc hyb hzb hd hsm hsucc hL
      go_wp2_with (refine load_pricer rfl _ rfl g n (flat xss) (.slice (some ⟨b', off, none⟩) n cp) (.map (some B)) rfl HPC1.out ?_)
      refine HAK.out.mono ?_
      rintro e3 w3 ⟨rfl, ⟨P3, m3, hM3⟩, hW3⟩
      have hW03 := HW1.out.trans hW3
      have HPC3 := Lib.hid (HPC.out _ hW03)
      have HO3 := Lib.hid (owns_withinP HO.out hW3 hBg1)
      have HM3 := Lib.hid hM3
      have HW03 := Lib.hid hW03
      clear hcell c37 c38 cf cl hM3 hW3 hW03
      go_wp2_with (refine load_costs rfl _ rfl g n (flat xss) (.slice (some ⟨b', off, none⟩) n cp) (.map (some B)) rfl HPC3.out ?_)
      refine (HCAT.out _).mono ?_
      rintro e4 w4 ⟨rfl, hb4⟩
      have ho4 := owns_below HO3.out hb4
      have hM4 := HM3.out.below hb4
      have hW4 : Within B (B + 1) W0 w4 := HW03.out.trans ⟨hb4.os, hb4.tape, hb4.output, hb4.size, fun k hk _ => hb4.block k hk⟩
      have hg10 : W0.heap.size ≤ g1 := by rw [HG.out.2]; exact Nat.le_refl _
      have hst := ho4.stored i (.int .i64 d)
      rw [vals_set] at hst
      have hst2 := hst.1.stored sm (.int .i64 z)
      rw [vals_set, ← HSU.out] at hst2
      have hf1 := ho4.frozenAt i
      have hf2 := hst.1.frozenAt sm
      have hx1 := ho4.cellAt i (by omega)
      have hx2 := hst.1.cellAt sm (by omega)
      obtain ⟨v0, hv0⟩ : ∃ v0, w4.cell? ⟨g1, i, none⟩ = some v0 := by
        rw [hx1, List.getElem?_eq_getElem (by rw [ho4.1]; omega)]; exact ⟨_, rfl⟩
      obtain ⟨v1, hv1⟩ : ∃ v1, (w4.setCell ⟨g1, i, none⟩ (.int .i64 d)).cell? ⟨g1, sm, none⟩ = some v1 := by
        rw [hx2, List.getElem?_eq_getElem (by rw [hst.1.1]; omega)]; exact ⟨_, rfl⟩
      have HEND : Hid (((w4.setCell ⟨g1, i, none⟩ (.int .i64 d)).setCell ⟨g1, sm, none⟩ (.int .i64 z)).ownsRow g1 3 1 (.slice (some ⟨g1, 0, none⟩) N N) N (vals (pqS xss ps (relK xss ps n) n (i + 1))) ∧ (∃ P m, ColMap ((w4.setCell ⟨g1, i, none⟩ (.int .i64 d)).setCell ⟨g1, sm, none⟩ (.int .i64 z)) B P m) ∧ Within B (B + 1) W0 ((w4.setCell ⟨g1, i, none⟩ (.int .i64 d)).setCell ⟨g1, sm, none⟩ (.int .i64 z))) :=
        Lib.hid ⟨hst2.1, ⟨_, _, (hM4.setCell (p := ⟨g1, i, none⟩) (by show B ≠ g1; omega) _).setCell (p := ⟨g1, sm, none⟩) (by show B ≠ g1; omega) _⟩, (hW4.setNew (p := ⟨g1, i, none⟩) hg10 _).setNew (p := ⟨g1, sm, none⟩) hg10 _⟩
      have hiNi : (i : Int) < (N : Int) := by omega
      have hsNi : (sm : Int) < (N : Int) := by omega
      have hs0i : (0 : Int) ≤ (sm : Int) := by omega
      obtain ⟨hw1, hw2⟩ := HWR.out
      obtain ⟨hw3, hw4, hw5⟩ := HWS.out
      clear hst hst2 hx1 hx2 ho4 hM4 hW4 hb4 hg10 hw5
      go_wp2
      clear hw1 hw2 hw3 hw4
      go_roundw
      case rel => exact ⟨i + 1, by omega, by go_num, HEND.out⟩
      case measure => simp [intOf]; omega
    · obtain rfl : i = n := by omega
      have hb := HB0.out
      have HE : Hid (wr.ownsRow (w.heap.size + 1) 3 1 (.slice (some ⟨w.heap.size + 1, 0, none⟩) N N) N (vals (pqS xss ps (relK xss ps i) i i)) ∧ Within B (B + 1) w wr) := Lib.hid ⟨by
        have e1 := HG.out.2
        rw [HS0.out] at e1
        rw [e1]; exact ho, ⟨hW1.os.trans hb.os, hW1.tape.trans hb.tape, hW1.output.trans hb.output, Nat.le_trans hb.size hW1.size, fun k hk ho => (hW1.block k (Nat.lt_of_lt_of_le hk hb.size) ho).trans (hb.block k hk)⟩⟩
      have HG2 : Hid (g1 = w.heap.size + 1) := Lib.hid (by rw [← HG.out.2]; exact HS0.out)
      clear ho hM1 hW1 hb
      go_wp2
      go_ret
      exact ⟨by rw [HG2.out]; rfl, HE.out⟩

end Go.Proofs.YtellghhilcjbnaaDoor

