/-
  Side1: Ords Links Side SideFrom MktFrom MktFour.
-/
import Derived.Test.YtahilcnmjnjcaaaDoorCore1
import Derived.RangeFuncBox
import Derived.Test.YtahilcnmjnjcaaaDoorRank1
import Derived.Deep.WholeRow
import Derived.Deep.RegionWith
import Derived.Maps.AppendAt
import Derived.Deep.AppendLies
import Derived.Deep.RegionLaw
/-
  LISTS OF ORDERS that the call owns, and how they grow beside each other.
-/
namespace Go.Proofs.YtahilcnmjnjcaaaDoor
set_option linter.unusedVariables false
set_option linter.unusedSimpArgs false
open Go.RowKit

theorem infoOrd : (Tryd.prog.info? 66).map (fun i => (i.zero, i.size, i.bytes)) = some (some (.slice none 0 0), 1, 24) := by kernel_rfl

structure OwnsOrd (w : World) (lo hi : Nat) (v : Value) (us : List Value) (xss : List (List Int)) : Prop where
  len : us.length = xss.length
  outer : OwnsAt w lo hi 66 v xss.length us
  inner : ∀ (i : Nat) (h : i < us.length), OwnsInts w lo hi us[i] (xss[i]'(len ▸ h))
  apart : ∀ (i j : Nat) (hij : i < j) (hj : j < us.length), (us[i]'(Nat.lt_trans hij hj)).ownBlock = none ∨ (us[i]'(Nat.lt_trans hij hj)).ownBlock ≠ us[j].ownBlock

theorem OwnsOrd.below {w w' : World} {lo hi : Nat} {v : Value} {us : List Value} {xss : List (List Int)} (h : OwnsOrd w lo hi v us xss) (hb : Below w.heap.size w w') : OwnsOrd w' lo hi v us xss :=
  ⟨h.len, h.outer.below hb, fun i hi' => (h.inner i hi').below hb, h.apart⟩
theorem OwnsOrd.wide {w : World} {lo lo' hi hi' : Nat} {v : Value} {us : List Value} {xss : List (List Int)} (h : OwnsOrd w lo hi v us xss) (hl : lo' ≤ lo) (hh : hi ≤ hi') : OwnsOrd w lo' hi' v us xss :=
  ⟨h.len, h.outer.wide hl hh, fun i hi' => (h.inner i hi').wide hl hh, h.apart⟩
theorem OwnsOrd.rows {w : World} {lo hi : Nat} {v : Value} {us : List Value} {xss : List (List Int)} (h : OwnsOrd w lo hi v us xss) : IntRows w v xss := by
  have hl := h.len
  rcases h.outer.1.2 with ⟨rfl, hn⟩ | ⟨g, cap, cur, rfl, hb, hg, hnc, hm, hcs, htake⟩
  · have : xss = [] := by simpa using hn
    subst this
    exact ⟨none, 0, us, rfl, by simp [maxLen], hl, fun i hi => by simp at hi⟩
  · refine ⟨some ⟨g, 0, none⟩, cap, us, rfl, by omega, hl, fun i hi u hu => ?_⟩
    have hi' : i < us.length := by omega
    have hui : us[i] = u := by rw [List.getElem?_eq_getElem hi'] at hu; simpa using hu
    refine ⟨⟨g, 0, rfl, ?_⟩, ?_⟩
    · have hc := h.outer.1.cells (g := g) rfl i u hu
      have hadd : (⟨g, 0, none⟩ : Addr).add i = ⟨g, 0 + i, none⟩ := by unfold Addr.add; split <;> simp_all
      rw [hadd] at hc
      exact hc
    · rw [← hui]; exact ints_at_owns (h.inner i hi')
theorem OwnsOrd.nil (W : World) (lo : Nat) (v : Value) (h : W.ownsRow lo 66 1 v 0 []) : OwnsOrd W lo W.heap.size v [] [] :=
  ⟨rfl, OwnsAt.of h, fun i hi => by simp at hi, fun i j _ hj => by simp at hj⟩

theorem owns_other {W W' : World} {base n b : Nat} {e : TypeId} {v : Value} {ys : List Value} {c : Array Value} {t : TypeId} {fr : Nat × Nat} (hr : W.ownsRow base e 1 v n ys) (hg : W.grownBy W' (some b)) (hb : W.heap[b]? = some (.cells c t fr)) (he : t ≠ e) : W'.ownsRow base e 1 v n ys := by
  refine hr.kept hg ?_
  cases hv : v.ownBlock with
  | none => exact .inl rfl
  | some k =>
    right
    intro e2
    obtain ⟨c1, f1, hc1⟩ := row_cells hr hv
    cases e2
    rw [hb] at hc1
    simp at hc1
    exact he hc1.2.1

/-- Where a cell of another type turns, the list stands still. -/
theorem OwnsOrd.other {W W' : World} {lo hi : Nat} {v : Value} {us : List Value} {xss : List (List Int)} {b : Nat} {c : Array Value} {t : TypeId} {fr : Nat × Nat} (h : OwnsOrd W lo hi v us xss) (hg : W.grownBy W' (some b)) (hb : W.heap[b]? = some (.cells c t fr)) (ht : t ≠ 66) (ht2 : t ≠ 3) : OwnsOrd W' lo hi v us xss := by
  have far : ∀ {base : Nat} {e : TypeId} {v : Value} {n : Nat} {ys : List Value}, W.ownsRow base e 1 v n ys → t ≠ e → W'.ownsRow base e 1 v n ys := fun {base e v n ys} hr he => by
    refine hr.kept hg ?_
    cases hv : v.ownBlock with
    | none => exact .inl rfl
    | some k =>
      right
      intro e2
      obtain ⟨c1, f1, hc1⟩ := row_cells hr hv
      cases e2
      rw [hb] at hc1
      simp at hc1
      exact he hc1.2.1
  exact ⟨h.len, ⟨far h.outer.1 ht, h.outer.2⟩, fun i hi' => ⟨far (h.inner i hi').1 ht2, (h.inner i hi').2⟩, h.apart⟩

/-- One list more in the first of two lists of orders; the second one stands still. -/
theorem OwnsOrd.push {w w2 w3 : World} {lo : Nat} {v v2 : Value} {us us2 : List Value} {xss yss : List (List Int)} (h : OwnsOrd w lo w.heap.size v us xss) (h2 : OwnsOrd w lo w.heap.size v2 us2 yss) (ha : v.ownBlock = none ∨ v.ownBlock ≠ v2.ownBlock)
    (hlo : lo ≤ w.heap.size) (hb : Below w.heap.size w w2) {u : Value} {xs : List Int} (hu : Owns w2 w.heap.size u xs) {g cap n : Nat} (hn : us.length = n)
    (hown : w3.ownsRow lo 66 1 (.slice (some ⟨g, 0, none⟩) (n + 1) cap) (n + 1) (us ++ [u])) (hg : w2.grownBy w3 v.ownBlock) (hgc : v.ownBlock = some g ∨ w.heap.size ≤ g) :
    OwnsOrd w3 lo w3.heap.size (.slice (some ⟨g, 0, none⟩) (n + 1) cap) (us ++ [u]) (xss ++ [xs]) ∧ OwnsOrd w3 lo w3.heap.size v2 us2 yss ∧
      ((Value.slice (some ⟨g, 0, none⟩) (n + 1) cap).ownBlock = none ∨ (Value.slice (some ⟨g, 0, none⟩) (n + 1) cap).ownBlock ≠ v2.ownBlock) ∧
      (∀ (B : Nat) (c : Array Value) (t : TypeId) (fr : Nat × Nat), w.heap[B]? = some (.cells c t fr) → t ≠ 66 → w3.heap[B]? = some (.cells c t fr)) := by
  have hs := hb.size
  have hs3 := hg.size
  have hout2 := owns_below h.outer.1 hb
  have hin : ∀ {k : Nat} {z : Value} {ys : List Int} {b0 : Nat}, w2.ownsRow b0 3 1 z k (vals ys) → w3.ownsRow b0 3 1 z k (vals ys) := fun hz => hz.kept hg (rows_apart hz hout2 (by decide))
  have hold : ∀ (i : Nat) (hi : i < us.length), OwnsInts w3 lo w3.heap.size us[i] (xss[i]'(h.len ▸ hi)) := fun i hi => by
    have h1 := h.inner i hi
    exact ⟨hin (owns_below h1.1 hb), fun k hk => Nat.lt_of_lt_of_le (h1.2 k hk) (by omega)⟩
  have hnew : OwnsInts w3 lo w3.heap.size u xs := by
    refine ⟨owns_mono (hin hu) hlo, fun k hk => ?_⟩
    have := (hu.lt k hk).2
    omega
  refine ⟨⟨by simp [h.len], ?_, fun i hi => ?_, fun i j hij hj => ?_⟩, ⟨h2.len, ⟨?_, fun k hk => Nat.lt_of_lt_of_le (h2.outer.2 k hk) (by omega)⟩, fun i hi => ?_, h2.apart⟩, ?_, ?_⟩
  · have e : (xss ++ [xs]).length = n + 1 := by rw [List.length_append, ← h.len, hn]; rfl
    rw [e]
    exact OwnsAt.of hown
  · by_cases hi2 : i < us.length
    · have := hold i hi2
      have hx : i < xss.length := h.len ▸ hi2
      simpa [List.getElem_append_left hi2, List.getElem_append_left hx] using this
    · have hi3 : i = us.length := by simp at hi; omega
      subst hi3
      have e1 : (us ++ [u])[us.length]'hi = u := by simp
      have e2 : (xss ++ [xs])[us.length]'(by simp [h.len]) = xs := by simp [h.len]
      rw [e1, e2]
      exact hnew
  · have hi2 : i < us.length := by simp at hj; omega
    by_cases hj2 : j < us.length
    · have := h.apart i j hij hj2
      simpa [List.getElem_append_left hi2, List.getElem_append_left hj2] using this
    · have hj3 : j = us.length := by simp at hj; omega
      subst hj3
      simp only [List.getElem_append_left hi2]
      have hx : (us ++ [u])[us.length]'hj = u := by simp
      rw [hx]
      cases hv : us[i].ownBlock with
      | none => exact .inl rfl
      | some b =>
        right
        intro he
        have h1 := (h.inner i hi2).2 b hv
        have h2 := (hu.lt b he.symm).1
        omega
  · refine (owns_below h2.outer.1 hb).kept hg ?_
    rcases ha with ha | ha
    · rw [ha]; cases v2.ownBlock <;> simp
    · cases hv : v2.ownBlock with
      | none => exact .inl rfl
      | some b => right; rw [hv] at ha; exact Ne.symm ha
  · exact ⟨hin (owns_below (h2.inner i hi).1 hb), fun k hk => Nat.lt_of_lt_of_le ((h2.inner i hi).2 k hk) (by omega)⟩
  · right
    show some g ≠ _
    intro e
    rcases hgc with hgc | hgc
    · rcases ha with ha | ha
      · rw [hgc] at ha; cases ha
      · exact ha (hgc.trans e)
    · have := h2.outer.2 g e.symm
      omega
  · intro B c t fr hB ht
    have hlt := (Array.getElem?_eq_some_iff.1 hB).1
    refine ((hg.block B (by omega) (fun e => ?_)).trans (hb.block B hlt)).trans hB
    obtain ⟨c1, f1, hc1⟩ := row_cells h.outer.1 e.symm
    rw [hB] at hc1
    simp at hc1
    exact ht hc1.2.1

end Go.Proofs.YtahilcnmjnjcaaaDoor

/-
  GRAPHS AS LISTS, and links in them: plain functions, no program.
-/
namespace Go.Proofs.YtahilcnmjnjcaaaDoor
set_option linter.unusedVariables false
set_option linter.unusedSimpArgs false
open Go.RowKit

/-- One set of a graph turned. -/
def upd (f : Nat → Nat) (i x : Nat) : Nat → Nat := fun j => if j = i then x else f j
theorem upd_same (f : Nat → Nat) (i x : Nat) : upd f i x i = x := by simp [upd]
theorem upd_other (f : Nat → Nat) {i j : Nat} (x : Nat) (h : j ≠ i) : upd f i x j = f j := by simp [upd, h]
theorem upd_step {f g : Nat → Nat} {k x : Nat} (h1 : g k = x) (h2 : ∀ i, i ≠ k → g i = f i) : upd f k x = g := by
  funext i; unfold upd; split
  · rename_i e; rw [e, h1]
  · rename_i e; exact (h2 i e).symm
theorem upd_lt {f : Nat → Nat} {i x : Nat} (hf : ∀ i, f i < 256) (hx : x < 256) : ∀ j, upd f i x j < 256 := by
  intro j; unfold upd; split
  · exact hx
  · exact hf j

/-- What 'with' does to a set keeps it below 256. -/
theorem with_lt {s v : Nat} (hs : s < 256) (hv : v < 8) : s ||| 2 ^ v < 256 := by
  have h : 2 ^ v < 2 ^ 8 := Nat.pow_lt_pow_right (by decide) hv
  exact Nat.or_lt_two_pow (n := 8) hs h

/-- The two nodes linked. -/
def lnk (f : Nat → Nat) (a b : Nat) : Nat → Nat := upd (upd f a (f a ||| 2 ^ b)) b (upd f a (f a ||| 2 ^ b) b ||| 2 ^ a)
theorem lnk_lt {f : Nat → Nat} {a b : Nat} (ha : a < 8) (hb : b < 8) (hf : ∀ i, f i < 256) : ∀ i, lnk f a b i < 256 :=
  upd_lt (upd_lt hf (with_lt (hf _) hb)) (with_lt (upd_lt hf (with_lt (hf _) hb) _) ha)

theorem lnk_ne (f : Nat → Nat) {a b : Nat} (h : a ≠ b) : lnk f a b = upd (upd f a (f a ||| 2 ^ b)) b (f b ||| 2 ^ a) := by
  unfold lnk; rw [upd_other f _ (Ne.symm h)]

/-- The way, so many links of it. -/
def wayTo : Nat → Nat → Nat
  | 0 => fun _ => 0
  | k + 1 => lnk (wayTo k) k (k + 1)
theorem wayTo_lt : ∀ (k : Nat), k < 8 → ∀ i, wayTo k i < 256
  | 0, _ => fun _ => by simp [wayTo]
  | k + 1, h => lnk_lt (by omega) (by omega) (wayTo_lt k (by omega))

/-- The graph as a list of numbers. -/
def glist (n : Nat) (f : Nat → Nat) : List Int := (List.range n).map fun (i : Nat) => (f i : Int)
theorem glist_len (n : Nat) (f : Nat → Nat) : (glist n f).length = n := by simp [glist]
theorem glist_at (n : Nat) (f : Nat → Nat) (i : Nat) (h : i < (glist n f).length) : (glist n f)[i] = (f i : Int) := by simp [glist]
theorem glist_zero (n : Nat) : vals (glist n (wayTo 0)) = List.replicate n (Value.int .i64 0) := by
  apply List.ext_getElem
  · simp [glist]
  · intro i h1 h2; simp [glist, wayTo]
theorem glist_cell (n : Nat) (f : Nat → Nat) (i : Nat) (h : i < n) : (vals (glist n f))[i]? = some (.int .i64 (f i : Int)) := by simp [glist, h]
theorem glist_set (n : Nat) (f : Nat → Nat) (i x : Nat) : (vals (glist n f)).set i (.int .i64 (x : Int)) = vals (glist n (upd f i x)) := by
  apply List.ext_getElem?
  intro j
  rw [List.getElem?_set]
  simp only [vals, glist, List.length_map, List.length_range, List.getElem?_map]
  by_cases e : i = j
  · subst e
    by_cases hi : i < n
    · simp [hi, upd]
    · simp [hi]
  · have : j ≠ i := fun h => e h.symm
    by_cases hj : j < n
    · simp [hj, upd, e, this]
    · simp [hj, e]
theorem glist_succ (k : Nat) (f : Nat → Nat) : vals (glist (k + 1) f) = vals (glist k f) ++ [Value.int .i64 (f k : Int)] := by simp [glist, List.range_succ]
theorem glist_congr {n : Nat} {f g : Nat → Nat} (h : ∀ i, i < n → f i = g i) : glist n f = glist n g := by
  apply List.ext_getElem
  · simp [glist]
  · intro i h1 h2
    simp [glist] at h1 ⊢
    rw [h i h1]

end Go.Proofs.YtahilcnmjnjcaaaDoor

/-
  impl.sideFrom reads a side: its rankings and the places in them.
-/
namespace Go.Proofs.YtahilcnmjnjcaaaDoor
set_option linter.unusedVariables false
set_option linter.unusedSimpArgs false
open Go.RowKit

abbrev two (a b : Value) : Array Value := #[a, b]
abbrev nilS : Value := .slice none 0 0
theorem sizeSI : (Tryd.prog.info? 55).map (·.size) = some 2 := by kernel_rfl
theorem size_two (a b : Value) : (Tryd.prog.info? 55).map (·.size) = some (two a b).size := sizeSI
theorem two_cells {w : World} {g : Nat} {a b : Value} {t : TypeId} (hg : w.heap[g]? = some (.cells (two a b) t (0, 0))) :
    w.cell? ⟨g, 0, none⟩ = some a ∧ w.cell? ⟨g, 1, none⟩ = some b ∧ (∀ i, w.frozen? ⟨g, i, none⟩ = false) ∧ g < w.heap.size :=
  ⟨by rw [cell_of_row _ _ _ _ _ _ hg]; rfl, by rw [cell_of_row _ _ _ _ _ _ hg]; rfl, fun i => frozen_of_row w g i _ _ hg, (Array.getElem?_eq_some_iff.1 hg).1⟩
theorem load_side {ops : Array Oper} {rest : List Oper} {o : Oper} {a : Act} {w : World} {Q : Exit → Act → World → Prop} (hgd : o.guard = none) (x : Operand) (ho : o.op = .load 55 x)
    (g : Nat) (p q : Value) (hx : a.eval x = .pointer (some ⟨g, 0, none⟩)) (hg : w.heap[g]? = some (.cells (two p q) 55 (0, 0)))
    (h : wpList Tryd.prog ops Q rest (a.put o.dst (.agg (two p q))) w) : wpList Tryd.prog ops Q (o :: rest) a w :=
  wpList_load_row hgd 55 x ho g hx 55 (two p q) (0, 0) _ hg Tryd.underlying55 rfl (size_two p q) h
theorem store_side {ops : Array Oper} {rest : List Oper} {o : Oper} {a : Act} {w : World} {Q : Exit → Act → World → Prop} (hgd : o.guard = none) (x y : Operand) (ho : o.op = .store 55 x y)
    (g : Nat) (p q : Value) (hx : a.eval x = .pointer (some ⟨g, 0, none⟩)) (hy : a.eval y = .agg (two p q)) (p0 q0 : Value) (h1 : p.oneCell' = true) (h2 : q.oneCell' = true)
    (hg : w.heap[g]? = some (.cells (two p0 q0) 55 (0, 0)))
    (h : wpList Tryd.prog ops Q rest (a.put o.dst undef) (w.setRow g (two p q))) : wpList Tryd.prog ops Q (o :: rest) a w :=
  wpList_store_row hgd 55 x y ho g (two p q) hx hy 55 (two p0 q0) hg (size_two p q) rfl (by simp [two, h1, h2]) h
theorem ret_side2 {fn : Func} {p u : Tmp} (h : fn.results = #[.cell p 55, .tmp u]) (tmps : Array Value) (w : World) (g : Nat) (a b : Value) (v : Value)
    (hp : tmps.getD p undef = .pointer (some ⟨g, 0, none⟩)) (hv : tmps.getD u undef = v) (hg : w.heap[g]? = some (.cells (two a b) 55 (0, 0))) :
    (results fn tmps).run Tryd.prog w = .ok (.tuple #[.agg (two a b), v]) w := by
  subst hv
  rw [results_cell_tmp h tmps Tryd.prog w, hp]
  simp only [asAddr, Sem.run_pure, Result.andThen]
  rw [run_loadVar_row w g 55 55 (two a b) (0, 0) _ hg Tryd.underlying55 rfl (size_two a b)]

/-- Whether all lists are rankings. -/
def sideOk (xss : List (List Int)) : Bool := xss.all (rankB xss.length)
theorem sideOk_no {xss : List (List Int)} {k : Nat} (hk : k < xss.length) (h : rankB xss.length xss[k] = false) : sideOk xss = false := by
  unfold sideOk
  rw [Bool.eq_false_iff]
  intro hall
  rw [List.all_eq_true.1 hall _ (List.getElem_mem hk)] at h
  cases h
theorem sideOk_yes {xss : List (List Int)} (h : ∀ k (hk : k < xss.length), rankB xss.length xss[k] = true) : sideOk xss = true := by
  unfold sideOk
  rw [List.all_eq_true]
  intro x hx
  obtain ⟨k, hk, rfl⟩ := List.getElem_of_mem hx
  exact h k hk
theorem sideOk_at {xss : List (List Int)} (h : sideOk xss = true) (k : Nat) (hk : k < xss.length) : rankB xss.length xss[k] = true := List.all_eq_true.1 h _ (List.getElem_mem hk)

def GivesSide (w : World) (xss : List (List Int)) (e : Ending) (w' : World) : Prop :=
  ∃ A1 n1 c1 A2 n2 c2 us, e = .returned (.tuple #[.agg (two (.slice A1 n1 c1) (.slice A2 n2 c2)), .bool (sideOk xss)]) ∧ Below w.heap.size w w' ∧
    (sideOk xss = true → OwnsOrd w' w.heap.size w'.heap.size (.slice A1 n1 c1) us xss ∧ ∃ us2, OwnsOrd w' w.heap.size w'.heap.size (.slice A2 n2 c2) us2 (xss.map backOf))

/-- What stands when k rankings and j places were read. -/
structure SideAt (w wr : World) (xss : List (List Int)) (k j : Nat) (v1 v2 : Value) (us1 us2 : List Value) : Prop where
  bel : Below w.heap.size w wr
  res : wr.heap[w.heap.size]? = some (.cells (two nilS nilS) 55 (0, 0))
  cur : wr.heap[w.heap.size + 1]? = some (.cells (two v1 v2) 55 (0, 0))
  one : OwnsOrd wr w.heap.size wr.heap.size v1 us1 (xss.take k)
  two : OwnsOrd wr w.heap.size wr.heap.size v2 us2 ((xss.take j).map backOf)
  apart : v1.ownBlock = none ∨ v1.ownBlock ≠ v2.ownBlock

theorem SideAt.cur3 {w wr w2 w3 : World} {xss : List (List Int)} {k j : Nat} {v1 v2 : Value} {us1 us2 : List Value} (h : SideAt w wr xss k j v1 v2 us1 us2) (hb : Below wr.heap.size wr w2) (hg : w2.grownBy w3 v1.ownBlock ∨ w2.grownBy w3 v2.ownBlock) :
    w3.heap[w.heap.size + 1]? = some (.cells (Go.Proofs.YtahilcnmjnjcaaaDoor.two v1 v2) 55 (0, 0)) := by
  have hlt := (Array.getElem?_eq_some_iff.1 h.cur).1
  have hs := hb.size
  have key : ∀ {v : Value} {n : Nat} {ys : List Value}, wr.ownsRow w.heap.size 66 1 v n ys → w2.grownBy w3 v.ownBlock → w3.heap[w.heap.size + 1]? = some (.cells (Go.Proofs.YtahilcnmjnjcaaaDoor.two v1 v2) 55 (0, 0)) := fun {v} {n} {ys} hr hg => by
    refine ((hg.block _ (by omega) (fun e => ?_)).trans (hb.block _ hlt)).trans h.cur
    obtain ⟨c1, f1, hc1⟩ := row_cells hr e.symm
    have := h.cur
    rw [hc1] at this
    simp at this
  rcases hg with hg | hg
  · exact key h.one.outer.1 hg
  · exact key h.two.outer.1 hg

theorem apart_sym {v1 v2 : Value} (h : v1.ownBlock = none ∨ v1.ownBlock ≠ v2.ownBlock) : v2.ownBlock = none ∨ v2.ownBlock ≠ v1.ownBlock := by
  cases hv : v2.ownBlock with
  | none => exact .inl rfl
  | some b =>
    right
    rw [hv] at h
    rcases h with h | h
    · rw [h]; simp
    · exact Ne.symm h

theorem SideAt.push1 {w wr w2 w3 : World} {xss : List (List Int)} {k : Nat} {v1 v2 : Value} {us1 us2 : List Value} (h : SideAt w wr xss k k v1 v2 us1 us2) (hk : k < xss.length) (hb : Below wr.heap.size wr w2) {u : Value} (hu : Owns w2 wr.heap.size u xss[k]) {g cap n : Nat} (hn : us1.length = n)
    (hown : w3.ownsRow w.heap.size 66 1 (.slice (some ⟨g, 0, none⟩) (n + 1) cap) (n + 1) (us1 ++ [u])) (hg : w2.grownBy w3 v1.ownBlock) (hgc : v1.ownBlock = some g ∨ wr.heap.size ≤ g) :
    SideAt w (w3.setCell ⟨w.heap.size + 1, 0, none⟩ (.slice (some ⟨g, 0, none⟩) (n + 1) cap)) xss (k + 1) k (.slice (some ⟨g, 0, none⟩) (n + 1) cap) v2 (us1 ++ [u]) us2 := by
  have hs := h.bel.size
  obtain ⟨p1, p2, p3, p4⟩ := h.one.push h.two h.apart hs hb hu hn hown hg hgc
  have c1 := p4 _ _ _ _ h.res (by decide)
  have c2 := p4 _ _ _ _ h.cur (by decide)
  have hgr := grown_setCell w3 (w.heap.size + 1) 0 (.slice (some ⟨g, 0, none⟩) (n + 1) cap)
  have hsz : (w3.setCell ⟨w.heap.size + 1, 0, none⟩ (.slice (some ⟨g, 0, none⟩) (n + 1) cap)).heap.size = w3.heap.size := by simp [World.setCell]
  refine ⟨?_, ?_, ?_, ?_, ?_, p3⟩
  · exact ((step_below h.bel hb).grown hg (by have := hb.size; omega) (fun j hj => (h.one.outer.1.lt j hj).1)).setCell (p := ⟨w.heap.size + 1, 0, none⟩) (Nat.le_succ _) _
  · rw [heap_setCell_other _ _ _ _ (by simp)]; exact c1
  · rw [heap_setCell_same _ _ 0 _ _ _ c2]; rfl
  · rw [hsz]; have := p1.other hgr c2 (by decide) (by decide); rw [List.take_succ_eq_append_getElem hk]; exact this
  · rw [hsz]; exact p2.other hgr c2 (by decide) (by decide)

theorem SideAt.push2 {w wr w2 w3 : World} {xss : List (List Int)} {k : Nat} {v1 v2 : Value} {us1 us2 : List Value} (h : SideAt w wr xss (k + 1) k v1 v2 us1 us2) (hk : k < xss.length) (hb : Below wr.heap.size wr w2) {u : Value} (hu : Owns w2 wr.heap.size u (backOf xss[k])) {g cap n : Nat} (hn : us2.length = n)
    (hown : w3.ownsRow w.heap.size 66 1 (.slice (some ⟨g, 0, none⟩) (n + 1) cap) (n + 1) (us2 ++ [u])) (hg : w2.grownBy w3 v2.ownBlock) (hgc : v2.ownBlock = some g ∨ wr.heap.size ≤ g) :
    SideAt w (w3.setCell ⟨w.heap.size + 1, 1, none⟩ (.slice (some ⟨g, 0, none⟩) (n + 1) cap)) xss (k + 1) (k + 1) v1 (.slice (some ⟨g, 0, none⟩) (n + 1) cap) us1 (us2 ++ [u]) := by
  have hs := h.bel.size
  obtain ⟨p1, p2, p3, p4⟩ := h.two.push h.one (apart_sym h.apart) hs hb hu hn hown hg hgc
  have c1 := p4 _ _ _ _ h.res (by decide)
  have c2 := p4 _ _ _ _ h.cur (by decide)
  have hgr := grown_setCell w3 (w.heap.size + 1) 1 (.slice (some ⟨g, 0, none⟩) (n + 1) cap)
  have hsz : (w3.setCell ⟨w.heap.size + 1, 1, none⟩ (.slice (some ⟨g, 0, none⟩) (n + 1) cap)).heap.size = w3.heap.size := by simp [World.setCell]
  refine ⟨?_, ?_, ?_, ?_, ?_, apart_sym p3⟩
  · exact ((step_below h.bel hb).grown hg (by have := hb.size; omega) (fun j hj => (h.two.outer.1.lt j hj).1)).setCell (p := ⟨w.heap.size + 1, 1, none⟩) (Nat.le_succ _) _
  · rw [heap_setCell_other _ _ _ _ (by simp)]; exact c1
  · rw [heap_setCell_same _ _ 1 _ _ _ c2]; rfl
  · rw [hsz]; exact p2.other hgr c2 (by decide) (by decide)
  · rw [hsz]
    have := p1.other hgr c2 (by decide) (by decide)
    rw [List.take_succ_eq_append_getElem hk, List.map_append]
    exact this

end Go.Proofs.YtahilcnmjnjcaaaDoor

/-
  impl.sideFrom: the walk.
-/
namespace Go.Proofs.YtahilcnmjnjcaaaDoor
set_option linter.unusedVariables false
set_option linter.unusedSimpArgs false
open Go.RowKit

theorem heap_setRow2 {w : World} {g : Nat} {cs c' : Array Value} {t : TypeId} {fr : Nat × Nat} (h : w.heap[g]? = some (.cells cs t fr)) : (w.setRow g c').heap[g]? = some (.cells c' t fr) := by
  have hlt := (Array.getElem?_eq_some_iff.1 h).1
  have h' : w.heap[g] = .cells cs t fr := by simpa [Array.getElem?_eq_getElem hlt] using h
  show (w.heap.modify g _)[g]? = _
  rw [Array.getElem?_eq_getElem (by simpa using hlt), Array.getElem_modify_self, h']
theorem below_setRow2 {B : Nat} {a w : World} (h : Below B a w) {g : Nat} (hg : B ≤ g) (c : Array Value) : Below B a (w.setRow g c) :=
  h.trans ⟨rfl, rfl, rfl, by simp [World.setRow], fun k hk => by
    show (w.heap.modify g _)[k]? = _
    rw [Array.getElem?_modify, if_neg (by omega)]⟩
theorem grown_setRow2 (W : World) (b : Nat) (c : Array Value) : W.grownBy (W.setRow b c) (some b) := ⟨rfl, rfl, rfl, by simp [World.setRow], fun k _ hk => by
    show (W.heap.modify b _)[k]? = _
    rw [Array.getElem?_modify, if_neg (fun e => hk (by rw [e]))]⟩
theorem heap_two_new (w : World) (o p : Obj) : ((w.alloc o).alloc p).heap[w.heap.size + 1]? = some p := by
  have := World.alloc_heap_new (w.alloc o) p
  rwa [World.size_alloc] at this
theorem heap_two_old (w : World) (o p : Obj) : ((w.alloc o).alloc p).heap[w.heap.size]? = some o :=
  (Below.heap_alloc _ _ _ (by simp)).trans (World.alloc_heap_new w o)

theorem orderFrom_yes (w : World) (v : Value) (xs : List Int) (h : Ints w v xs) (n : Nat) (h1 : 1 ≤ n) (h5 : n ≤ 5) (hr : rankB n xs = true) :
    Calls Tryd.prog 77 #[.int .i64 (n : Int), v] w fun e w' => ∃ g c, e = .returned (.tuple #[.slice (some ⟨g, 0, none⟩) n c, .bool true]) ∧ Below w.heap.size w w' ∧ Owns w' w.heap.size (.slice (some ⟨g, 0, none⟩) n c) xs := by
  refine (orderFrom_any w v xs h n h1 h5).mono ?_
  rintro e w' ⟨u, rfl, hb, ho⟩
  rw [ordOf_yes hr] at ho
  have hl := (rank_parts hr).1
  rcases ho.2 with ⟨rfl, hn⟩ | ⟨g, cap, cur, rfl, hb', rest⟩
  · omega
  · exact ⟨g, cap, by rw [hr, hl], hb, by rw [← hl]; exact ⟨ho.1, .inr ⟨g, cap, cur, rfl, hb', rest⟩⟩⟩

theorem OwnsOrd.last {w : World} {lo hi k : Nat} {v u : Value} {us : List Value} {xss : List (List Int)} (h : OwnsOrd w lo hi v (us ++ [u]) (xss.take (k + 1))) (hn : us.length = k) (hk : k < xss.length) : OwnsInts w lo hi u xss[k] := by
  have h1 := h.inner k (by simp; omega)
  subst hn
  simpa using h1

set_option maxRecDepth 100000 in
set_option maxHeartbeats 4000000 in
theorem sideFrom_any (w : World) (v : Value) (xss : List (List Int)) (h : IntRows w v xss) (h1 : 1 ≤ xss.length) (h5 : xss.length ≤ 5) :
    Calls Tryd.prog 70 #[v] w (GivesSide w xss) := by
  obtain ⟨A, cap, rfl, hm, hc⟩ := h.at
  obtain ⟨i0, hi, hz0, hz1, hz2⟩ := info_parts infoOrd
  have HC := Lib.hid hc
  clear hc h
  unfold maxLen at hm
  have hA0 : SideAt w ((w.alloc (.cells (two nilS nilS) 55)).alloc (.cells (two nilS nilS) 55)) xss 0 0 nilS nilS [] [] :=
    ⟨((Below.refl _ _).alloc (Nat.le_refl _) _).alloc (by simp) _, heap_two_old _ _ _, heap_two_new _ _ _, OwnsOrd.nil _ _ _ (World.ownsRow_nil _ _ _ _), OwnsOrd.nil _ _ _ (World.ownsRow_nil _ _ _ _), .inl rfl⟩
  have HA0 := Lib.hid hA0
  clear hA0
  go_enter Tryd.func70, Tryd.ntmps70
  go_wp2
  go_loopw [6, 7, 8, 11] (fun _ _ _ i wr => ∃ (k : Nat) (A1 : Option Addr) (n1 c1 : Nat) (A2 : Option Addr) (n2 c2 : Nat) (us1 us2 : List Value), k ≤ xss.length ∧ i = .int .i64 k ∧ SideAt w wr xss k k (.slice A1 n1 c1) (.slice A2 n2 c2) us1 us2 ∧ (∀ j (hj : j < xss.length), j < k → rankB xss.length xss[j] = true)) (fun _ _ _ i _ => xss.length - (intOf i).toNat)
  case atStart => exact ⟨0, none, 0, 0, none, 0, 0, [], [], by omega, rfl, HA0.out, fun j hj h => by omega⟩
  case round =>
    obtain ⟨k, A1, n1, c1, A2, n2, c2, us1, us2, hk, rfl, hS, hall⟩ := hrel
    have HS := Lib.hid hS
    have HALL := Lib.hid hall
    have hbel := hS.bel
    clear hall
    by_cases hlt : k < xss.length
    · obtain ⟨b, off, u, rfl, hcell0, hx0⟩ := HC.out k hlt
      have hcell := (hbel.cell (p := ⟨b, off + k, none⟩) (World.block_lt_of_cell? w _ hcell0)).trans hcell0
      have hx := hx0.below hbel
      have hki : (k : Int) < (xss.length : Int) := by omega
      have hk0 : (0 : Int) ≤ (k : Int) := by omega
      have HOF := Lib.hid (orderFrom_any wr u xss[k] hx xss.length h1 h5)
      clear hcell0 hx0
      cases hb : rankB xss.length xss[k] with
      | false =>
        have HF := Lib.hid (sideOk_no hlt hb)
        rw [hb] at HOF
        have hlres := (Array.getElem?_eq_some_iff.1 hS.res).1
        have HRES := Lib.hid (fun w2 (hb2 : Below wr.heap.size wr w2) => (hb2.block _ hlres).trans hS.res)
        clear hb hS
        go_wp2_with (first
          | (go_at_call 77; refine HOF.out.mono ?_; rintro e w2 ⟨r, rfl, hb2, ho2⟩)
          | (refine store_side rfl _ _ rfl w.heap.size nilS nilS rfl rfl nilS nilS rfl rfl (HRES.out _ hb2) ?_))
        refine bodyPost_ret (v := .tuple #[.agg (two nilS nilS), .bool false]) (ret_side2 rfl _ _ w.heap.size nilS nilS (.bool false) rfl rfl (heap_setRow2 (HRES.out _ hb2))) rfl ?_
        exact ⟨none, 0, 0, none, 0, 0, [], by rw [HF.out], below_setRow2 (step_below HS.out.bel hb2) (Nat.le_refl _) _, fun h => by rw [HF.out] at h; cases h⟩
      | true =>
        have HOY := Lib.hid (orderFrom_yes wr u xss[k] hx xss.length h1 h5 hb)
        have hrp := rank_parts hb
        have HB := Lib.hid hb
        have hlres := (Array.getElem?_eq_some_iff.1 hS.cur).1
        have HCUR := Lib.hid (fun w2 (hb2 : Below wr.heap.size wr w2) => (hb2.block _ hlres).trans hS.cur)
        have ho1 : wr.ownsRow w.heap.size 66 1 (.slice A1 n1 c1) k us1 := by
          have := hS.one.outer.1
          rwa [List.length_take, Nat.min_eq_left hk] at this
        have ho2 : wr.ownsRow w.heap.size 66 1 (.slice A2 n2 c2) k us2 := by
          have := hS.two.outer.1
          rwa [List.length_map, List.length_take, Nat.min_eq_left hk] at this
        have HO1 := Lib.hid ho1
        have HO2 := Lib.hid ho2
        have HRP := Lib.hid hrp
        have hbs := hbel.size
        clear hb hS ho1 ho2 hx HOF hrp
        go_wp2_with (first
          | (go_at_call 77; refine HOY.out.mono ?_; rintro e w2 ⟨gr, cr, rfl, hb2, hw2⟩; obtain ⟨hq0, hq1, hqf, hql⟩ := two_cells (HCUR.out _ hb2))
          | (at_builtin; refine wpList_append_lies _ rfl _ _ 53 rfl w.heap.size 66 i0 (.slice none 0 0) 1 24 Tryd.underlying53 hi hz0 hz1 hz2 rfl (by decide) _ _ _ rfl ((owns_below HO1.out hb2).alloc _) ⟨w2.heap.size, 0, none⟩ 1 1 [.slice (some ⟨gr, 0, none⟩) xss.length cr] rfl rfl (cell_one_new _ _ _) (by simp [Value.oneCell']) (by decide) (by unfold maxLen; omega) (by omega) (by have := hb2.size; simp; omega) _ rfl ?_; intro g cap w3 hown hgrow hgc hglt; obtain ⟨hz0', hz1', hzf, hzl⟩ := two_cells (HS.out.cur3 (hb2.alloc hb2.size _) (.inl hgrow))))
        have hS4 := HS.out.push1 hlt (hb2.alloc hb2.size _) (u := .slice (some ⟨gr, 0, none⟩) xss.length cr) (hw2.alloc _) (by have := HS.out.one.len; rw [List.length_take, Nat.min_eq_left hk] at this; exact this) hown hgrow (by rcases hgc with h | h; exact .inl h; right; rw [h]; have := hb2.size; simp; omega)
        obtain ⟨W4, hW4⟩ : ∃ W4, w3.setCell ⟨w.heap.size + 1, 0, none⟩ (.slice (some ⟨g, 0, none⟩) (k + 1) cap) = W4 := ⟨_, rfl⟩
        rw [hW4] at hS4 ⊢
        have hl1 : us1.length = k := by have := HS.out.one.len; rw [List.length_take, Nat.min_eq_left hk] at this; exact this
        have hl2 : us2.length = k := by have := HS.out.two.len; rw [List.length_map, List.length_take, Nat.min_eq_left hk] at this; exact this
        have hrl : xss[k].length = xss.length := HRP.out.1
        have hint : Ints W4.drew (.slice (some ⟨gr, 0, none⟩) xss.length cr) xss[k] := ints_at_owns (hS4.one.last hl1 hlt)
        have HTU := Lib.hid (turned_any W4.drew _ xss[k] hint (by omega) (by rw [hrl]; exact HRP.out.2.1))
        rw [hrl] at HTU
        obtain ⟨d0, d1, df, dl⟩ := two_cells (w := W4.drew) hS4.cur
        have ho4 : W4.ownsRow w.heap.size 66 1 (.slice A2 n2 c2) k us2 := by
          have := hS4.two.outer.1
          rwa [List.length_map, List.length_take, Nat.min_eq_left hk] at this
        have HO4 := Lib.hid ho4
        have HS4 := Lib.hid hS4
        have HL := Lib.hid (And.intro hl1 (And.intro hl2 hrl))
        have hb4 := hS4.bel.size
        clear hW4 hS4 ho4 hint hown hgrow hgc hglt hz0' hz1' hzf hzl hq0 hq1 hqf hql hw2 hl1 hl2 hrl HO1 HO2 HOY hcell HCUR hlres
        apply once_three (fun (m5 g2 cap2 : Nat) (w' : World) => SideAt w w' xss (k + 1) (k + 1) (.slice (some ⟨g, 0, none⟩) (k + 1) cap) (.slice (some ⟨g2, 0, none⟩) (k + 1) cap2) (us1 ++ [.slice (some ⟨gr, 0, none⟩) xss.length cr]) (us2 ++ [.slice (some ⟨W4.heap.size, 0, none⟩) xss.length xss.length]))
        case h1 =>
          go_region_law (first
            | (go_simp; go_at_call 64; refine HTU.out.mono ?_; rintro e w5 ⟨rfl, hb5, ho5⟩; have hB5 : Below W4.heap.size W4 w5 := ⟨hb5.os, hb5.tape, hb5.output, hb5.size, hb5.block⟩; obtain ⟨e0, e1, ef, el⟩ := two_cells ((hB5.block _ dl).trans HS4.out.cur); have e1' : ∀ o, (w5.alloc o).cell? ⟨w.heap.size + 1, 1, none⟩ = some (.slice A2 n2 c2) := (fun o => by rw [World.cell?_alloc_past _ _ _ el]; exact e1); obtain ⟨m5, hm5⟩ : ∃ m5, w5.heap.size = m5 := ⟨_, rfl⟩)
            | (refine step_append_lies _ (by rfl) (.tmp 32) (.tmp 35) 53 (by rfl) w.heap.size 66 i0 (.slice none 0 0) 1 24 Tryd.underlying53 hi hz0 hz1 hz2 rfl (by decide) _ _ _ (by rfl) (by exact (owns_below HO4.out hB5).alloc _) ⟨m5, 0, none⟩ 1 1 [.slice (some ⟨W4.heap.size, 0, none⟩) xss.length xss.length] (by rfl) (by rfl) (by subst hm5; exact cell_one_new _ _ _) (by simp [Value.oneCell']) (by decide) (by unfold maxLen; omega) (by omega) (by have := hB5.size; simp; omega) _ (by rfl) ?_; intro g2 cap2 w6 hown6 hgrow6 hgc6 hglt6; obtain ⟨y0, y1, yf, yl⟩ := two_cells (HS4.out.cur3 (hB5.alloc hB5.size _) (.inr hgrow6))))
          all_goals exact ⟨m5, g2, cap2, HS4.out.push2 hlt (hB5.alloc hB5.size _) (u := .slice (some ⟨W4.heap.size, 0, none⟩) xss.length xss.length) (ho5.alloc _) HL.out.2.1 hown6 hgrow6 (by rcases hgc6 with h | h; exact .inl h; right; rw [h]; have := hB5.size; simp; omega), rfl⟩
        intro m5 g2 cap2 w6 hS6
        have HS6 := Lib.hid hS6
        clear hS6
        go_wp2
        go_roundw
        case rel =>
          refine ⟨k + 1, some ⟨g, 0, none⟩, k + 1, cap, some ⟨g2, 0, none⟩, k + 1, cap2, us1 ++ [.slice (some ⟨gr, 0, none⟩) xss.length cr], us2 ++ [.slice (some ⟨W4.heap.size, 0, none⟩) xss.length xss.length], by omega, by go_num, HS6.out, fun j hj h => ?_⟩
          by_cases e : j = k
          · subst e; exact HB.out
          · exact HALL.out j hj (by omega)
        case measure => simp [intOf]; omega
    · obtain rfl : k = xss.length := by omega
      have HY := Lib.hid (sideOk_yes (fun j hj => HALL.out j hj hj))
      have hres := hS.res
      have hcur := hS.cur
      clear hS
      go_wp2_with (first
        | (refine load_side rfl _ rfl (w.heap.size + 1) (.slice A1 n1 c1) (.slice A2 n2 c2) rfl hcur ?_)
        | (refine store_side rfl _ _ rfl w.heap.size (.slice A1 n1 c1) (.slice A2 n2 c2) rfl rfl nilS nilS rfl rfl hres ?_))
      refine bodyPost_ret (v := .tuple #[.agg (two (.slice A1 n1 c1) (.slice A2 n2 c2)), .bool true]) (ret_side2 rfl _ _ w.heap.size _ _ (.bool true) rfl rfl (heap_setRow2 hres)) rfl ?_
      have hone := HS.out.one
      have htwo := HS.out.two
      rw [List.take_length] at hone htwo
      have hg := grown_setRow2 wr w.heap.size (two (.slice A1 n1 c1) (.slice A2 n2 c2))
      have hsz : (wr.setRow w.heap.size (two (.slice A1 n1 c1) (.slice A2 n2 c2))).heap.size = wr.heap.size := by simp [World.setRow]
      refine ⟨A1, n1, c1, A2, n2, c2, us1, by rw [HY.out], below_setRow2 HS.out.bel (Nat.le_refl _) _, fun _ => ⟨?_, ?_⟩⟩
      · rw [hsz]; exact hone.other hg hres (by decide) (by decide)
      · rw [hsz]; exact ⟨us2, htwo.other hg hres (by decide) (by decide)⟩

end Go.Proofs.YtahilcnmjnjcaaaDoor

/-
  impl.marketFrom reads a market.
-/
namespace Go.Proofs.YtahilcnmjnjcaaaDoor
set_option linter.unusedVariables false
set_option linter.unusedSimpArgs false
open Go.RowKit

abbrev four (a b c d : Value) : Array Value := #[a, b, c, d]
theorem sizeMK : (Tryd.prog.info? 60).map (·.size) = some 4 := by kernel_rfl
theorem size_four (a b c d : Value) : (Tryd.prog.info? 60).map (·.size) = some (four a b c d).size := sizeMK
theorem load_mkt {ops : Array Oper} {rest : List Oper} {o : Oper} {a : Act} {w : World} {Q : Exit → Act → World → Prop} (hgd : o.guard = none) (x : Operand) (ho : o.op = .load 60 x)
    (g : Nat) (p q r s : Value) (hx : a.eval x = .pointer (some ⟨g, 0, none⟩)) (hg : w.heap[g]? = some (.cells (four p q r s) 60 (0, 0)))
    (h : wpList Tryd.prog ops Q rest (a.put o.dst (.agg (four p q r s))) w) : wpList Tryd.prog ops Q (o :: rest) a w :=
  wpList_load_row hgd 60 x ho g hx 60 (four p q r s) (0, 0) _ hg Tryd.underlying60 rfl (size_four p q r s) h
theorem store_mkt {ops : Array Oper} {rest : List Oper} {o : Oper} {a : Act} {w : World} {Q : Exit → Act → World → Prop} (hgd : o.guard = none) (x y : Operand) (ho : o.op = .store 60 x y)
    (g : Nat) (p q r s : Value) (hx : a.eval x = .pointer (some ⟨g, 0, none⟩)) (hy : a.eval y = .agg (four p q r s)) (p0 q0 r0 s0 : Value) (h1 : p.oneCell' = true) (h2 : q.oneCell' = true) (h3 : r.oneCell' = true) (h4 : s.oneCell' = true)
    (hg : w.heap[g]? = some (.cells (four p0 q0 r0 s0) 60 (0, 0)))
    (h : wpList Tryd.prog ops Q rest (a.put o.dst undef) (w.setRow g (four p q r s))) : wpList Tryd.prog ops Q (o :: rest) a w :=
  wpList_store_row hgd 60 x y ho g (four p q r s) hx hy 60 (four p0 q0 r0 s0) hg (size_four p q r s) rfl (by simp [four, h1, h2, h3, h4]) h
theorem ret_mkt2 {fn : Func} {p u : Tmp} (h : fn.results = #[.cell p 60, .tmp u]) (tmps : Array Value) (w : World) (g : Nat) (a b c d : Value) (v : Value)
    (hp : tmps.getD p undef = .pointer (some ⟨g, 0, none⟩)) (hv : tmps.getD u undef = v) (hg : w.heap[g]? = some (.cells (four a b c d) 60 (0, 0))) :
    (results fn tmps).run Tryd.prog w = .ok (.tuple #[.agg (four a b c d), v]) w := by
  subst hv
  rw [results_cell_tmp h tmps Tryd.prog w, hp]
  simp only [asAddr, Sem.run_pure, Result.andThen]
  rw [run_loadVar_row w g 60 60 (four a b c d) (0, 0) _ hg Tryd.underlying60 rfl (size_four a b c d)]

/-- Is it a market? -/
def mktOk (ls rs : List (List Int)) : Bool := decide (1 ≤ ls.length ∧ ls.length ≤ 5 ∧ rs.length = ls.length) && (sideOk ls && sideOk rs)
theorem mktOk_size {ls rs : List (List Int)} (h : ¬ (1 ≤ ls.length ∧ ls.length ≤ 5 ∧ rs.length = ls.length)) : mktOk ls rs = false := by unfold mktOk; rw [decide_eq_false h]; rfl
theorem mktOk_sides {ls rs : List (List Int)} (h1 : 1 ≤ ls.length) (h5 : ls.length ≤ 5) (h : rs.length = ls.length) : mktOk ls rs = (sideOk ls && sideOk rs) := by unfold mktOk; rw [decide_eq_true ⟨h1, h5, h⟩]; rfl
theorem mktOk_parts {ls rs : List (List Int)} (h : mktOk ls rs = true) : (1 ≤ ls.length ∧ ls.length ≤ 5 ∧ rs.length = ls.length) ∧ sideOk ls = true ∧ sideOk rs = true := by
  unfold mktOk at h
  rw [Bool.and_eq_true, Bool.and_eq_true, decide_eq_true_iff] at h
  exact h

def IsSl (v : Value) : Prop := ∃ A n c, v = .slice A n c
theorem IsSl.one {v : Value} (h : IsSl v) : v.oneCell' = true := by obtain ⟨A, n, c, rfl⟩ := h; rfl

/-- A market that was read, in memory of its own. -/
structure MktAt (w : World) (lo : Nat) (a1 a2 a3 a4 : Value) (ls rs : List (List Int)) : Prop where
  own : ∃ mid us us', lo ≤ mid ∧ mid ≤ w.heap.size ∧ OwnsOrd w lo mid a1 us ls ∧ OwnsOrd w mid w.heap.size a3 us' rs
  two : ∃ us, OwnsOrd w lo w.heap.size a2 us (ls.map backOf)
  four : ∃ us, OwnsOrd w lo w.heap.size a4 us (rs.map backOf)
theorem MktAt.below {w w' : World} {lo : Nat} {a1 a2 a3 a4 : Value} {ls rs : List (List Int)} (h : MktAt w lo a1 a2 a3 a4 ls rs) (hb : Below w.heap.size w w') : MktAt w' lo a1 a2 a3 a4 ls rs := by
  obtain ⟨⟨mid, us, us', h1, h2, h3, h4⟩, ⟨u5, h5⟩, ⟨u6, h6⟩⟩ := h
  exact ⟨⟨mid, us, us', h1, Nat.le_trans h2 hb.size, h3.below hb, (h4.below hb).wide (Nat.le_refl _) hb.size⟩, ⟨u5, (h5.below hb).wide (Nat.le_refl _) hb.size⟩, ⟨u6, (h6.below hb).wide (Nat.le_refl _) hb.size⟩⟩
theorem MktAt.other {w w' : World} {lo lo' b : Nat} {a1 a2 a3 a4 : Value} {ls rs : List (List Int)} {c : Array Value} {t : TypeId} {fr : Nat × Nat} (h : MktAt w lo a1 a2 a3 a4 ls rs) (hl : lo' ≤ lo) (hg : w.grownBy w' (some b)) (hb : w.heap[b]? = some (.cells c t fr)) (ht : t ≠ 66) (ht2 : t ≠ 3) : MktAt w' lo' a1 a2 a3 a4 ls rs := by
  obtain ⟨⟨mid, us, us', h1, h2, h3, h4⟩, ⟨u5, h5⟩, ⟨u6, h6⟩⟩ := h
  exact ⟨⟨mid, us, us', Nat.le_trans hl h1, Nat.le_trans h2 hg.size, (h3.other hg hb ht ht2).wide hl (Nat.le_refl _), (h4.other hg hb ht ht2).wide (Nat.le_refl _) hg.size⟩, ⟨u5, (h5.other hg hb ht ht2).wide hl hg.size⟩, ⟨u6, (h6.other hg hb ht ht2).wide hl hg.size⟩⟩
theorem MktAt.left {w : World} {lo : Nat} {a1 a2 a3 a4 : Value} {ls rs : List (List Int)} (h : MktAt w lo a1 a2 a3 a4 ls rs) : IntRows w a2 (ls.map backOf) := by obtain ⟨_, h2⟩ := h.two; exact h2.rows
theorem MktAt.right {w : World} {lo : Nat} {a1 a2 a3 a4 : Value} {ls rs : List (List Int)} (h : MktAt w lo a1 a2 a3 a4 ls rs) : IntRows w a4 (rs.map backOf) := by obtain ⟨_, h2⟩ := h.four; exact h2.rows
theorem MktAt.one {w : World} {lo : Nat} {a1 a2 a3 a4 : Value} {ls rs : List (List Int)} (h : MktAt w lo a1 a2 a3 a4 ls rs) : IntRows w a1 ls := by obtain ⟨_, _, _, _, _, h3, _⟩ := h.own; exact h3.rows
theorem MktAt.three {w : World} {lo : Nat} {a1 a2 a3 a4 : Value} {ls rs : List (List Int)} (h : MktAt w lo a1 a2 a3 a4 ls rs) : IntRows w a3 rs := by obtain ⟨_, _, _, _, _, _, h3⟩ := h.own; exact h3.rows

def GivesMkt (w : World) (ls rs : List (List Int)) (e : Ending) (w' : World) : Prop :=
  ∃ a1 a2 a3 a4, e = .returned (.tuple #[.agg (four a1 a2 a3 a4), .bool (mktOk ls rs)]) ∧ Below w.heap.size w w' ∧ (IsSl a1 ∧ IsSl a2 ∧ IsSl a3 ∧ IsSl a4) ∧ (mktOk ls rs = true → MktAt w' w.heap.size a1 a2 a3 a4 ls rs)

theorem gives_mkt_no {w W : World} {ls rs : List (List Int)} (h : mktOk ls rs = false) (hb : Below w.heap.size w W) : GivesMkt w ls rs (.returned (.tuple #[.agg (four nilS nilS nilS nilS), .bool false])) W :=
  ⟨nilS, nilS, nilS, nilS, by rw [h], hb, ⟨⟨_, _, _, rfl⟩, ⟨_, _, _, rfl⟩, ⟨_, _, _, rfl⟩, ⟨_, _, _, rfl⟩⟩, fun e => by rw [h] at e; cases e⟩

set_option maxRecDepth 100000 in
set_option maxHeartbeats 4000000 in
theorem mktFrom_any (w : World) (L R : Value) (ls rs : List (List Int)) (hL : IntRows w L ls) (hR : IntRows w R rs) :
    Calls Tryd.prog 44 #[.agg (two L R)] w (GivesMkt w ls rs) := by
  have hL' := hL
  have hR' := hR
  obtain ⟨A1, cap1, rfl, hm1, _⟩ := hL.at
  obtain ⟨A2, cap2, rfl, hm2, _⟩ := hR.at
  have HIL := Lib.hid hL'
  have HIR := Lib.hid hR'
  clear hL hR hL' hR'
  unfold maxLen at hm1 hm2
  by_cases hs : 1 ≤ ls.length ∧ ls.length ≤ 5 ∧ rs.length = ls.length
  · obtain ⟨h1, h5, hl⟩ := hs
    have e1 : ((rs.length : Int) != (ls.length : Int)) = false := by simp; omega
    obtain ⟨W0, hW0⟩ : ∃ W0, (w.alloc (.cells (two (.slice A1 ls.length cap1) (.slice A2 rs.length cap2)) 28)).alloc (.cells (four nilS nilS nilS nilS) 60) = W0 := ⟨_, rfl⟩
    have hb0 : Below w.heap.size w W0 := by rw [← hW0]; exact ((Below.refl _ _).alloc (Nat.le_refl _) _).alloc (by simp) _
    have hbox : W0.heap[w.heap.size]? = some (.cells (two (.slice A1 ls.length cap1) (.slice A2 rs.length cap2)) 28 (0, 0)) := by rw [← hW0]; exact heap_two_old _ _ _
    have hres : W0.heap[w.heap.size + 1]? = some (.cells (four nilS nilS nilS nilS) 60 (0, 0)) := by rw [← hW0]; exact heap_two_new _ _ _
    have hsz0 : W0.heap.size = w.heap.size + 2 := by rw [← hW0]; simp
    have hok := mktOk_sides h1 h5 hl
    have HOK := Lib.hid hok
    have HSL := Lib.hid (fun (W : World) (hW : Below w.heap.size w W) => sideFrom_any W _ ls (HIL.out.below hW) h1 h5)
    have HSR := Lib.hid (fun (W : World) (hW : Below w.heap.size w W) => sideFrom_any W _ rs (HIR.out.below hW) (by omega) (by omega))
    obtain ⟨x0, x1, xf, xl⟩ := two_cells hbox
    have HBOX := Lib.hid hbox
    have HRES := Lib.hid hres
    have HB0 := Lib.hid hb0
    have HLEN := Lib.hid hl
    clear hok hbox hres hb0 hl
    go_enter Tryd.func44, Tryd.ntmps44
    go_wp2_with fail
    clear hW0
    refine (HSL.out _ HB0.out).mono ?_
    rintro e w1 ⟨B1, m1, c1, B2, m2, c2, us, rfl, hb1, ho1⟩
    have HO1 := Lib.hid ho1
    have hs1 := hb1.size
    have HB1 := Lib.hid hb1
    have hnew1 := World.alloc_heap_new w1 (.cells (two nilS nilS) 55)
    have x1' := (two_cells ((hb1.block _ (by omega)).trans HBOX.out)).2.1
    obtain ⟨y0, y1, yf, yl⟩ := two_cells ((Below.heap_alloc w1 (.cells (two nilS nilS) 55) w.heap.size (by omega)).trans ((hb1.block _ (by omega)).trans HBOX.out))
    clear ho1 hb1 x0 x1 xf
    obtain ⟨W2, hW2⟩ : ∃ W2, (w1.alloc (.cells (two nilS nilS) 55)).setRow w1.heap.size (two (.slice B1 m1 c1) (.slice B2 m2 c2)) = W2 := ⟨_, rfl⟩
    have hcur2 : W2.heap[w1.heap.size]? = some (.cells (two (.slice B1 m1 c1) (.slice B2 m2 c2)) 55 (0, 0)) := by rw [← hW2]; exact heap_setRow2 hnew1
    have hb12 : Below w1.heap.size w1 W2 := by rw [← hW2]; exact below_setRow2 ((Below.refl _ _).alloc (Nat.le_refl _) _) (Nat.le_refl _) _
    have hsz2 : W2.heap.size = w1.heap.size + 1 := by rw [← hW2]; simp [World.setRow]
    have hb02 : Below w.heap.size w W2 := step_below (step_below HB0.out HB1.out) hb12
    have z1 : W2.cell? ⟨w.heap.size, 1, none⟩ = some (.slice A2 rs.length cap2) := (two_cells ((hb12.block _ (by omega)).trans ((HB1.out.block _ (by omega)).trans HBOX.out))).2.1
    go_wp2_with (first
      | (refine store_side rfl _ _ rfl w1.heap.size (.slice B1 m1 c1) (.slice B2 m2 c2) rfl rfl nilS nilS rfl rfl hnew1 ?_; try rw [hW2]))
    clear hW2 y0 y1 yf yl hnew1 x1'
    refine (HSR.out _ hb02).mono ?_
    rintro e w3 ⟨D1, q1, d1, D2, q2, d2, vs, rfl, hb3, ho3⟩
    have HO3 := Lib.hid ho3
    have hs3 := hb3.size
    have hnew3 := World.alloc_heap_new w3 (.cells (two nilS nilS) 55)
    obtain ⟨W4, hW4⟩ : ∃ W4, (w3.alloc (.cells (two nilS nilS) 55)).setRow w3.heap.size (two (.slice D1 q1 d1) (.slice D2 q2 d2)) = W4 := ⟨_, rfl⟩
    have hcur4 : W4.heap[w3.heap.size]? = some (.cells (two (.slice D1 q1 d1) (.slice D2 q2 d2)) 55 (0, 0)) := by rw [← hW4]; exact heap_setRow2 hnew3
    have hb34 : Below w3.heap.size w3 W4 := by rw [← hW4]; exact below_setRow2 ((Below.refl _ _).alloc (Nat.le_refl _) _) (Nat.le_refl _) _
    have hsz4 : W4.heap.size = w3.heap.size + 1 := by rw [← hW4]; simp [World.setRow]
    have hold4 : W4.heap[w1.heap.size]? = some (.cells (two (.slice B1 m1 c1) (.slice B2 m2 c2)) 55 (0, 0)) := (hb34.block _ (by omega)).trans ((hb3.block _ (by omega)).trans hcur2)
    have hres4 : W4.heap[w.heap.size + 1]? = some (.cells (four nilS nilS nilS nilS) 60 (0, 0)) := (hb34.block _ (by omega)).trans ((hb3.block _ (by omega)).trans ((hb12.block _ (by omega)).trans ((HB1.out.block _ (by omega)).trans HRES.out)))
    have hb04 : Below w.heap.size w W4 := step_below (step_below hb02 hb3) hb34
    have HB34 := Lib.hid (And.intro hb12 (And.intro hb3 (And.intro hb34 hb04)))
    clear ho3 hb12 hb3 hb34 hb04 hb02 z1 hcur2
    cases hok1 : sideOk ls with
    | false =>
      have HNO : Hid (mktOk ls rs = false) := Lib.hid (by rw [HOK.out, hok1]; rfl)
      clear hok1
      go_wp2_with (first
        | (refine store_side rfl _ _ rfl w3.heap.size (.slice D1 q1 d1) (.slice D2 q2 d2) rfl rfl nilS nilS rfl rfl hnew3 ?_; try rw [hW4])
        | (refine store_mkt rfl _ _ rfl (w.heap.size + 1) nilS nilS nilS nilS rfl rfl nilS nilS nilS nilS rfl rfl rfl rfl hres4 ?_))
      refine bodyPost_ret (v := .tuple #[.agg (four nilS nilS nilS nilS), .bool false]) (ret_mkt2 rfl _ _ (w.heap.size + 1) nilS nilS nilS nilS (.bool false) rfl rfl (heap_setRow2 hres4)) rfl ?_
      exact gives_mkt_no HNO.out (below_setRow2 HB34.out.2.2.2 (Nat.le_succ _) _)
    | true =>
      cases hok2 : sideOk rs with
      | false =>
        have HNO : Hid (mktOk ls rs = false) := Lib.hid (by rw [HOK.out, hok1, hok2]; rfl)
        clear hok1 hok2
        go_wp2_with (first
          | (refine store_side rfl _ _ rfl w3.heap.size (.slice D1 q1 d1) (.slice D2 q2 d2) rfl rfl nilS nilS rfl rfl hnew3 ?_; try rw [hW4])
          | (refine store_mkt rfl _ _ rfl (w.heap.size + 1) nilS nilS nilS nilS rfl rfl nilS nilS nilS nilS rfl rfl rfl rfl hres4 ?_))
        refine bodyPost_ret (v := .tuple #[.agg (four nilS nilS nilS nilS), .bool false]) (ret_mkt2 rfl _ _ (w.heap.size + 1) nilS nilS nilS nilS (.bool false) rfl rfl (heap_setRow2 hres4)) rfl ?_
        exact gives_mkt_no HNO.out (below_setRow2 HB34.out.2.2.2 (Nat.le_succ _) _)
      | true =>
        have HYES : Hid (mktOk ls rs = true) := Lib.hid (by rw [HOK.out, hok1, hok2]; rfl)
        have HO1' := Lib.hid (HO1.out hok1)
        have HO3' := Lib.hid (HO3.out hok2)
        clear hok1 hok2
        go_wp2_with (first
          | (refine store_side rfl _ _ rfl w3.heap.size (.slice D1 q1 d1) (.slice D2 q2 d2) rfl rfl nilS nilS rfl rfl hnew3 ?_; try rw [hW4])
          | (refine load_side rfl _ rfl w1.heap.size (.slice B1 m1 c1) (.slice B2 m2 c2) rfl hold4 ?_)
          | (refine load_side rfl _ rfl w3.heap.size (.slice D1 q1 d1) (.slice D2 q2 d2) rfl hcur4 ?_)
          | (refine store_mkt rfl _ _ rfl (w.heap.size + 1) (.slice B1 m1 c1) (.slice B2 m2 c2) (.slice D1 q1 d1) (.slice D2 q2 d2) rfl rfl nilS nilS nilS nilS rfl rfl rfl rfl hres4 ?_))
        refine bodyPost_ret (v := .tuple #[.agg (four (.slice B1 m1 c1) (.slice B2 m2 c2) (.slice D1 q1 d1) (.slice D2 q2 d2)), .bool true]) (ret_mkt2 rfl _ _ (w.heap.size + 1) _ _ _ _ (.bool true) rfl rfl (heap_setRow2 hres4)) rfl ?_
        obtain ⟨hb12, hb3, hb34, hb04⟩ := HB34.out
        obtain ⟨o1, us2, o2⟩ := HO1'.out
        obtain ⟨o3, vs2, o4⟩ := HO3'.out
        have g1 : Below w1.heap.size w1 W4 := step_below (step_below hb12 hb3) hb34
        have hg := grown_setRow2 W4 (w.heap.size + 1) (four (.slice B1 m1 c1) (.slice B2 m2 c2) (.slice D1 q1 d1) (.slice D2 q2 d2))
        have hsz : (W4.setRow (w.heap.size + 1) (four (.slice B1 m1 c1) (.slice B2 m2 c2) (.slice D1 q1 d1) (.slice D2 q2 d2))).heap.size = W4.heap.size := by simp [World.setRow]
        have hk1 := (o1.below g1).other hg hres4 (by decide) (by decide)
        have hk2 := (o2.below g1).other hg hres4 (by decide) (by decide)
        have hk3 := (o3.below hb34).other hg hres4 (by decide) (by decide)
        have hk4 := (o4.below hb34).other hg hres4 (by decide) (by decide)
        refine ⟨_, _, _, _, by rw [HYES.out], below_setRow2 hb04 (Nat.le_succ _) _, ⟨⟨_, _, _, rfl⟩, ⟨_, _, _, rfl⟩, ⟨_, _, _, rfl⟩, ⟨_, _, _, rfl⟩⟩, fun _ => ⟨⟨w1.heap.size, us, vs, by omega, by omega, hk1.wide (by omega) (Nat.le_refl _), hk3.wide (by omega) (by omega)⟩, ⟨us2, hk2.wide (by omega) (by omega)⟩, ⟨vs2, hk4.wide (by omega) (by omega)⟩⟩⟩
  · have HNO := Lib.hid (mktOk_size hs)
    have hres := heap_two_new w (.cells (two (.slice A1 ls.length cap1) (.slice A2 rs.length cap2)) 28) (.cells (four nilS nilS nilS nilS) 60)
    have hbox := heap_two_old w (.cells (two (.slice A1 ls.length cap1) (.slice A2 rs.length cap2)) 28) (.cells (four nilS nilS nilS nilS) 60)
    obtain ⟨x0, x1, xf, xl⟩ := two_cells hbox
    have hb0 : Below w.heap.size w ((w.alloc (.cells (two (.slice A1 ls.length cap1) (.slice A2 rs.length cap2)) 28)).alloc (.cells (four nilS nilS nilS nilS) 60)) := ((Below.refl _ _).alloc (Nat.le_refl _) _).alloc (by simp) _
    have HB0 := Lib.hid hb0
    clear hbox hb0
    have key : (ls.length : Int) < 1 ∨ (5 : Int) < ls.length ∧ ¬ (ls.length : Int) < 1 ∨ ¬ (ls.length : Int) < 1 ∧ ¬ (5 : Int) < ls.length ∧ ((rs.length : Int) != (ls.length : Int)) = true := by
      by_cases k1 : (ls.length : Int) < 1
      · exact .inl k1
      · by_cases k5 : (5 : Int) < ls.length
        · exact .inr (.inl ⟨k5, k1⟩)
        · exact .inr (.inr ⟨k1, k5, by simp; omega⟩)
    clear hs
    rcases key with k1 | ⟨k5, k1⟩ | ⟨k1, k5, e1⟩
    all_goals
      go_enter Tryd.func44, Tryd.ntmps44
      go_wp2_with (refine store_mkt rfl _ _ rfl (w.heap.size + 1) nilS nilS nilS nilS rfl rfl nilS nilS nilS nilS rfl rfl rfl rfl hres ?_)
      refine bodyPost_ret (v := .tuple #[.agg (four nilS nilS nilS nilS), .bool false]) (ret_mkt2 rfl _ _ (w.heap.size + 1) nilS nilS nilS nilS (.bool false) rfl rfl (heap_setRow2 hres)) rfl ?_
      exact gives_mkt_no HNO.out (below_setRow2 HB0.out (Nat.le_succ _) _)

end Go.Proofs.YtahilcnmjnjcaaaDoor

/-
  (impl.market).count, (impl.market).turned.
-/
namespace Go.Proofs.YtahilcnmjnjcaaaDoor
set_option linter.unusedVariables false
set_option linter.unusedSimpArgs false
open Go.RowKit

theorem four_cells {w : World} {g : Nat} {a b c d : Value} (hg : w.heap[g]? = some (.cells (four a b c d) 60 (0, 0))) :
    w.cell? ⟨g, 0, none⟩ = some a ∧ w.cell? ⟨g, 1, none⟩ = some b ∧ w.cell? ⟨g, 2, none⟩ = some c ∧ w.cell? ⟨g, 3, none⟩ = some d ∧ g < w.heap.size :=
  ⟨by rw [cell_of_row _ _ _ _ _ _ hg]; rfl, by rw [cell_of_row _ _ _ _ _ _ hg]; rfl, by rw [cell_of_row _ _ _ _ _ _ hg]; rfl, by rw [cell_of_row _ _ _ _ _ _ hg]; rfl, (Array.getElem?_eq_some_iff.1 hg).1⟩

set_option maxRecDepth 100000 in
set_option maxHeartbeats 400000 in
theorem count_any (w : World) (A : Option Addr) (n c : Nat) (a2 a3 a4 : Value) :
    Calls Tryd.prog 74 #[.agg (four (.slice A n c) a2 a3 a4)] w fun e w' => e = .returned (.int .i64 (n : Int)) ∧ Below w.heap.size w w' := by
  have hb0 : Below w.heap.size w (w.alloc (.cells (four (.slice A n c) a2 a3 a4) 60)) := (Below.refl _ _).alloc (Nat.le_refl _) _
  have hc : (w.alloc (.cells (four (.slice A n c) a2 a3 a4) 60)).cell? ⟨w.heap.size, 0, none⟩ = some (.slice A n c) := by rw [cell_of_row _ _ _ _ _ _ (World.alloc_heap_new w _)]; rfl
  have HB := Lib.hid hb0
  clear hb0
  go_enter Tryd.func74, Tryd.ntmps74
  go_wp2
  go_ret
  exact ⟨rfl, HB.out⟩

theorem ret_mkt1 {fn : Func} {p : Tmp} (h : fn.results = #[.cell p 60]) (tmps : Array Value) (w : World) (g : Nat) (a b c d : Value)
    (hp : tmps.getD p undef = .pointer (some ⟨g, 0, none⟩)) (hg : w.heap[g]? = some (.cells (four a b c d) 60 (0, 0))) :
    (results fn tmps).run Tryd.prog w = .ok (.agg (four a b c d)) w :=
  results_cell_row h tmps w g 60 (four a b c d) (0, 0) _ hp hg Tryd.underlying60 rfl (size_four a b c d)

set_option maxRecDepth 100000 in
set_option maxHeartbeats 2000000 in
theorem mturned_any (w : World) (A1 : Option Addr) (n1 c1 : Nat) (A2 : Option Addr) (n2 c2 : Nat) (A3 : Option Addr) (n3 c3 : Nat) (A4 : Option Addr) (n4 c4 : Nat) :
    Calls Tryd.prog 57 #[.agg (four (.slice A1 n1 c1) (.slice A2 n2 c2) (.slice A3 n3 c3) (.slice A4 n4 c4))] w fun e w' => e = .returned (.agg (four (.slice A3 n3 c3) (.slice A4 n4 c4) (.slice A1 n1 c1) (.slice A2 n2 c2))) ∧ Below w.heap.size w w' := by
  obtain ⟨W0, hW0⟩ : ∃ W0, (w.alloc (.cells (four (.slice A1 n1 c1) (.slice A2 n2 c2) (.slice A3 n3 c3) (.slice A4 n4 c4)) 60)).alloc (.cells (four nilS nilS nilS nilS) 60) = W0 := ⟨_, rfl⟩
  have hb0 : Below w.heap.size w W0 := by rw [← hW0]; exact ((Below.refl _ _).alloc (Nat.le_refl _) _).alloc (by simp) _
  have hbox : W0.heap[w.heap.size]? = some (.cells (four (.slice A1 n1 c1) (.slice A2 n2 c2) (.slice A3 n3 c3) (.slice A4 n4 c4)) 60 (0, 0)) := by rw [← hW0]; exact heap_two_old _ _ _
  have hres : W0.heap[w.heap.size + 1]? = some (.cells (four nilS nilS nilS nilS) 60 (0, 0)) := by rw [← hW0]; exact heap_two_new _ _ _
  obtain ⟨x0, x1, x2, x3, xf⟩ := four_cells hbox
  have HB0 := Lib.hid hb0
  clear hb0
  go_enter Tryd.func57, Tryd.ntmps57
  go_wp2_with (refine store_mkt rfl _ _ rfl (w.heap.size + 1) (.slice A3 n3 c3) (.slice A4 n4 c4) (.slice A1 n1 c1) (.slice A2 n2 c2) rfl rfl nilS nilS nilS nilS rfl rfl rfl rfl hres ?_)
  refine bodyPost_ret (ret_mkt1 rfl _ _ (w.heap.size + 1) _ _ _ _ rfl (heap_setRow2 hres)) rfl ?_
  exact ⟨rfl, below_setRow2 HB0.out (by omega) _⟩

end Go.Proofs.YtahilcnmjnjcaaaDoor

