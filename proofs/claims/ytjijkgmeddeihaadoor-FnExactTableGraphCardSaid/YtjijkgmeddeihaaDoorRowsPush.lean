/-
  A LIST OF LISTS THAT GROWS.
-/
import Derived.Test.YtjijkgmeddeihaaDoorGives
import Derived.Test.YtjijkgmeddeihaaDoorSets
import Derived.RangeFuncBox
namespace Go.Proofs.YtjijkgmeddeihaaDoor
set_option linter.unusedVariables false
set_option linter.unusedSimpArgs false
open Go.RowKit

theorem infoRow : (Tryd.prog.info? 22).map (fun i => (i.zero, i.size, i.bytes)) = some (some (.slice none 0 0), 1, 24) := by kernel_rfl

theorem row_cells {W : World} {base : Nat} {e : TypeId} {v : Value} {n : Nat} {xs : List Value} {b : Nat} (h : W.ownsRow base e 1 v n xs) (hb : v.ownBlock = some b) : ∃ c fr, W.heap[b]? = some (.cells c e fr) := by
  rcases h.2 with ⟨rfl, _⟩ | ⟨g, cap, cur, rfl, _, hgb, _⟩
  · simp [Value.ownBlock] at hb
  · obtain rfl : g = b := by simpa [Value.ownBlock] using hb
    exact ⟨_, _, hgb⟩
theorem rows_apart {W : World} {b1 b2 : Nat} {e1 e2 : TypeId} {v1 v2 : Value} {n1 n2 : Nat} {xs1 xs2 : List Value} (h1 : W.ownsRow b1 e1 1 v1 n1 xs1) (h2 : W.ownsRow b2 e2 1 v2 n2 xs2) (he : e1 ≠ e2) : v1.ownBlock = none ∨ v1.ownBlock ≠ v2.ownBlock := by
  cases hv : v1.ownBlock with
  | none => exact .inl rfl
  | some b =>
    right
    intro he2
    obtain ⟨c1, f1, hc1⟩ := row_cells h1 hv
    obtain ⟨c2, f2, hc2⟩ := row_cells h2 he2.symm
    rw [hc1] at hc2
    simp at hc2
    exact he hc2.2.1
theorem row_still {W W' : World} {row : Option Nat} {base : Nat} {e : TypeId} {v : Value} {n : Nat} {xs : List Value} (h : W.ownsRow base e 1 v n xs) (hg : W.grownBy W' row) (hr : ∀ r, row = some r → ∃ o : Obj, W.heap[r]? = some o ∧ o.isCells = false) : W'.ownsRow base e 1 v n xs := by
  refine h.kept hg ?_
  cases hv : v.ownBlock with
  | none => exact .inl rfl
  | some b =>
    right
    intro he
    obtain ⟨c1, f1, hc1⟩ := row_cells h hv
    obtain ⟨o, ho, hc⟩ := hr b he.symm
    rw [hc1] at ho
    cases ho
    cases hc

/-- A list of lists stands still where no cells turn. -/
theorem OwnsRows.still {W W' : World} {lo hi : Nat} {v : Value} {us : List Value} {xss : List (List Int)} {row : Option Nat} (h : OwnsRows W lo hi v us xss) (hg : W.grownBy W' row) (hr : ∀ r, row = some r → ∃ o : Obj, W.heap[r]? = some o ∧ o.isCells = false) : OwnsRows W' lo hi v us xss :=
  ⟨h.len, ⟨row_still h.outer.1 hg hr, h.outer.2⟩, fun i hi' => ⟨row_still (h.inner i hi').1 hg hr, (h.inner i hi').2⟩, h.apart⟩

/-- A list of lists stands still where a cell of another type turns. -/
theorem OwnsRows.other {W W' : World} {lo hi : Nat} {v : Value} {us : List Value} {xss : List (List Int)} {b : Nat} {c : Array Value} {t : TypeId} {fr : Nat × Nat} (h : OwnsRows W lo hi v us xss) (hg : W.grownBy W' (some b)) (hb : W.heap[b]? = some (.cells c t fr)) (ht : t ≠ 22) (ht2 : t ≠ 3) : OwnsRows W' lo hi v us xss := by
  have far : ∀ {base : Nat} {e : TypeId} {v : Value} {n : Nat} {ys : List Value}, W.ownsRow base e 1 v n ys → t ≠ e → W'.ownsRow base e 1 v n ys := fun {base e v n ys} hr he => by
    refine hr.kept hg ?_
    cases hv : v.ownBlock with
    | none => exact .inl rfl
    | some k =>
      right
      intro e2
      obtain ⟨c1, f1, hc1⟩ := row_cells hr hv
      cases e2
      rw [hb] at hc1
      simp at hc1
      exact he hc1.2.1
  exact ⟨h.len, ⟨far h.outer.1 ht, h.outer.2⟩, fun i hi' => ⟨far (h.inner i hi').1 ht2, (h.inner i hi').2⟩, h.apart⟩

theorem owns_rows_nil (W : World) (lo : Nat) (v : Value) (h : W.ownsRow lo 22 1 v 0 []) : OwnsRows W lo W.heap.size v [] [] :=
  ⟨rfl, OwnsAt.of h, fun i hi => by simp at hi, fun i j _ hj => by simp at hj⟩

/-- One list more. -/
theorem OwnsRows.push {w w2 w3 : World} {lo : Nat} {v : Value} {us : List Value} {xss : List (List Int)} (h : OwnsRows w lo w.heap.size v us xss) (hlo : lo ≤ w.heap.size) (hb : Below w.heap.size w w2) {u : Value} {xs : List Int} (hu : Owns w2 w.heap.size u xs)
    {v' : Value} (hown : w3.ownsRow lo 22 1 v' (us.length + 1) (us ++ [u])) (hg : w2.grownBy w3 v.ownBlock) : OwnsRows w3 lo w3.heap.size v' (us ++ [u]) (xss ++ [xs]) := by
  have hs := hb.size
  have hs3 := hg.size
  have hvb : ∀ b, v.ownBlock = some b → b < w.heap.size := fun b hb => h.outer.2 b hb
  have hout2 := owns_below h.outer.1 hb
  have hold : ∀ (i : Nat) (hi : i < us.length), OwnsInts w3 lo w3.heap.size us[i] (xss[i]'(h.len ▸ hi)) := fun i hi => by
    have h1 := h.inner i hi
    have h2 := owns_below h1.1 hb
    exact ⟨h2.kept hg (rows_apart h2 hout2 (by decide)), fun k hk => Nat.lt_of_lt_of_le (h1.2 k hk) (by omega)⟩
  have hnew : OwnsInts w3 lo w3.heap.size u xs := by
    refine ⟨owns_mono (hu.kept hg (rows_apart hu hout2 (by decide))) hlo, fun k hk => ?_⟩
    have := (hu.lt k hk).2
    omega
  refine ⟨by simp [h.len], ?_, fun i hi => ?_, fun i j hij hj => ?_⟩
  · have e : (xss ++ [xs]).length = us.length + 1 := by simp [h.len]
    rw [e]
    exact OwnsAt.of hown
  · by_cases hi2 : i < us.length
    · have := hold i hi2
      have hx : i < xss.length := h.len ▸ hi2
      simpa [List.getElem_append_left hi2, List.getElem_append_left hx] using this
    · have hi3 : i = us.length := by simp at hi; omega
      subst hi3
      have e1 : (us ++ [u])[us.length]'hi = u := by simp
      have e2 : (xss ++ [xs])[us.length]'(by simp [h.len]) = xs := by simp [h.len]
      rw [e1, e2]
      exact hnew
  · have hi2 : i < us.length := by simp at hj; omega
    by_cases hj2 : j < us.length
    · have := h.apart i j hij hj2
      simpa [List.getElem_append_left hi2, List.getElem_append_left hj2] using this
    · have hj3 : j = us.length := by simp at hj; omega
      subst hj3
      simp only [List.getElem_append_left hi2]
      have hx : (us ++ [u])[us.length]'hj = u := by simp
      rw [hx]
      cases hv : us[i].ownBlock with
      | none => exact .inl rfl
      | some b =>
        right
        intro he
        have h1 := (h.inner i hi2).2 b hv
        have h2 := (hu.lt b he.symm).1
        omega

end Go.Proofs.YtjijkgmeddeihaaDoor
