/-
  LISTS OF ORDERS that the call owns, and how they grow beside each other.
-/
import Derived.Test.YtjhjfopokiaiiaaRowsPush
import Derived.RangeFuncBox
namespace Go.Proofs.Ytjhjfopokiaiiaa
set_option linter.unusedVariables false
set_option linter.unusedSimpArgs false
open Go.RowKit

theorem infoOrd : (Try.prog.info? 60).map (fun i => (i.zero, i.size, i.bytes)) = some (some (.slice none 0 0), 1, 24) := by kernel_rfl

structure OwnsOrd (w : World) (lo hi : Nat) (v : Value) (us : List Value) (xss : List (List Int)) : Prop where
  len : us.length = xss.length
  outer : OwnsAt w lo hi 60 v xss.length us
  inner : ∀ (i : Nat) (h : i < us.length), OwnsInts w lo hi us[i] (xss[i]'(len ▸ h))
  apart : ∀ (i j : Nat) (hij : i < j) (hj : j < us.length), (us[i]'(Nat.lt_trans hij hj)).ownBlock = none ∨ (us[i]'(Nat.lt_trans hij hj)).ownBlock ≠ us[j].ownBlock

theorem OwnsOrd.below {w w' : World} {lo hi : Nat} {v : Value} {us : List Value} {xss : List (List Int)} (h : OwnsOrd w lo hi v us xss) (hb : Below w.heap.size w w') : OwnsOrd w' lo hi v us xss :=
  ⟨h.len, h.outer.below hb, fun i hi' => (h.inner i hi').below hb, h.apart⟩
theorem OwnsOrd.wide {w : World} {lo lo' hi hi' : Nat} {v : Value} {us : List Value} {xss : List (List Int)} (h : OwnsOrd w lo hi v us xss) (hl : lo' ≤ lo) (hh : hi ≤ hi') : OwnsOrd w lo' hi' v us xss :=
  ⟨h.len, h.outer.wide hl hh, fun i hi' => (h.inner i hi').wide hl hh, h.apart⟩
theorem OwnsOrd.rows {w : World} {lo hi : Nat} {v : Value} {us : List Value} {xss : List (List Int)} (h : OwnsOrd w lo hi v us xss) : IntRows w v xss := by
  have hl := h.len
  rcases h.outer.1.2 with ⟨rfl, hn⟩ | ⟨g, cap, cur, rfl, hb, hg, hnc, hm, hcs, htake⟩
  · have : xss = [] := by simpa using hn
    subst this
    exact ⟨none, 0, us, rfl, by simp [maxLen], hl, fun i hi => by simp at hi⟩
  · refine ⟨some ⟨g, 0, none⟩, cap, us, rfl, by omega, hl, fun i hi u hu => ?_⟩
    have hi' : i < us.length := by omega
    have hui : us[i] = u := by rw [List.getElem?_eq_getElem hi'] at hu; simpa using hu
    refine ⟨⟨g, 0, rfl, ?_⟩, ?_⟩
    · have hc := h.outer.1.cells (g := g) rfl i u hu
      have hadd : (⟨g, 0, none⟩ : Addr).add i = ⟨g, 0 + i, none⟩ := by unfold Addr.add; split <;> simp_all
      rw [hadd] at hc
      exact hc
    · rw [← hui]; exact ints_at_owns (h.inner i hi')
theorem OwnsOrd.nil (W : World) (lo : Nat) (v : Value) (h : W.ownsRow lo 60 1 v 0 []) : OwnsOrd W lo W.heap.size v [] [] :=
  ⟨rfl, OwnsAt.of h, fun i hi => by simp at hi, fun i j _ hj => by simp at hj⟩

theorem owns_other {W W' : World} {base n b : Nat} {e : TypeId} {v : Value} {ys : List Value} {c : Array Value} {t : TypeId} {fr : Nat × Nat} (hr : W.ownsRow base e 1 v n ys) (hg : W.grownBy W' (some b)) (hb : W.heap[b]? = some (.cells c t fr)) (he : t ≠ e) : W'.ownsRow base e 1 v n ys := by
  refine hr.kept hg ?_
  cases hv : v.ownBlock with
  | none => exact .inl rfl
  | some k =>
    right
    intro e2
    obtain ⟨c1, f1, hc1⟩ := row_cells hr hv
    cases e2
    rw [hb] at hc1
    simp at hc1
    exact he hc1.2.1

/-- Where a cell of another type turns, the list stands still. -/
theorem OwnsOrd.other {W W' : World} {lo hi : Nat} {v : Value} {us : List Value} {xss : List (List Int)} {b : Nat} {c : Array Value} {t : TypeId} {fr : Nat × Nat} (h : OwnsOrd W lo hi v us xss) (hg : W.grownBy W' (some b)) (hb : W.heap[b]? = some (.cells c t fr)) (ht : t ≠ 60) (ht2 : t ≠ 3) : OwnsOrd W' lo hi v us xss := by
  have far : ∀ {base : Nat} {e : TypeId} {v : Value} {n : Nat} {ys : List Value}, W.ownsRow base e 1 v n ys → t ≠ e → W'.ownsRow base e 1 v n ys := fun {base e v n ys} hr he => by
    refine hr.kept hg ?_
    cases hv : v.ownBlock with
    | none => exact .inl rfl
    | some k =>
      right
      intro e2
      obtain ⟨c1, f1, hc1⟩ := row_cells hr hv
      cases e2
      rw [hb] at hc1
      simp at hc1
      exact he hc1.2.1
  exact ⟨h.len, ⟨far h.outer.1 ht, h.outer.2⟩, fun i hi' => ⟨far (h.inner i hi').1 ht2, (h.inner i hi').2⟩, h.apart⟩

/-- One list more in the first of two lists of orders; the second one stands still. -/
theorem OwnsOrd.push {w w2 w3 : World} {lo : Nat} {v v2 : Value} {us us2 : List Value} {xss yss : List (List Int)} (h : OwnsOrd w lo w.heap.size v us xss) (h2 : OwnsOrd w lo w.heap.size v2 us2 yss) (ha : v.ownBlock = none ∨ v.ownBlock ≠ v2.ownBlock)
    (hlo : lo ≤ w.heap.size) (hb : Below w.heap.size w w2) {u : Value} {xs : List Int} (hu : Owns w2 w.heap.size u xs) {g cap n : Nat} (hn : us.length = n)
    (hown : w3.ownsRow lo 60 1 (.slice (some ⟨g, 0, none⟩) (n + 1) cap) (n + 1) (us ++ [u])) (hg : w2.grownBy w3 v.ownBlock) (hgc : v.ownBlock = some g ∨ w.heap.size ≤ g) :
    OwnsOrd w3 lo w3.heap.size (.slice (some ⟨g, 0, none⟩) (n + 1) cap) (us ++ [u]) (xss ++ [xs]) ∧ OwnsOrd w3 lo w3.heap.size v2 us2 yss ∧
      ((Value.slice (some ⟨g, 0, none⟩) (n + 1) cap).ownBlock = none ∨ (Value.slice (some ⟨g, 0, none⟩) (n + 1) cap).ownBlock ≠ v2.ownBlock) ∧
      (∀ (B : Nat) (c : Array Value) (t : TypeId) (fr : Nat × Nat), w.heap[B]? = some (.cells c t fr) → t ≠ 60 → w3.heap[B]? = some (.cells c t fr)) := by
  have hs := hb.size
  have hs3 := hg.size
  have hout2 := owns_below h.outer.1 hb
  have hin : ∀ {k : Nat} {z : Value} {ys : List Int} {b0 : Nat}, w2.ownsRow b0 3 1 z k (vals ys) → w3.ownsRow b0 3 1 z k (vals ys) := fun hz => hz.kept hg (rows_apart hz hout2 (by decide))
  have hold : ∀ (i : Nat) (hi : i < us.length), OwnsInts w3 lo w3.heap.size us[i] (xss[i]'(h.len ▸ hi)) := fun i hi => by
    have h1 := h.inner i hi
    exact ⟨hin (owns_below h1.1 hb), fun k hk => Nat.lt_of_lt_of_le (h1.2 k hk) (by omega)⟩
  have hnew : OwnsInts w3 lo w3.heap.size u xs := by
    refine ⟨owns_mono (hin hu) hlo, fun k hk => ?_⟩
    have := (hu.lt k hk).2
    omega
  refine ⟨⟨by simp [h.len], ?_, fun i hi => ?_, fun i j hij hj => ?_⟩, ⟨h2.len, ⟨?_, fun k hk => Nat.lt_of_lt_of_le (h2.outer.2 k hk) (by omega)⟩, fun i hi => ?_, h2.apart⟩, ?_, ?_⟩
  · have e : (xss ++ [xs]).length = n + 1 := by rw [List.length_append, ← h.len, hn]; rfl
    rw [e]
    exact OwnsAt.of hown
  · by_cases hi2 : i < us.length
    · have := hold i hi2
      have hx : i < xss.length := h.len ▸ hi2
      simpa [List.getElem_append_left hi2, List.getElem_append_left hx] using this
    · have hi3 : i = us.length := by simp at hi; omega
      subst hi3
      have e1 : (us ++ [u])[us.length]'hi = u := by simp
      have e2 : (xss ++ [xs])[us.length]'(by simp [h.len]) = xs := by simp [h.len]
      rw [e1, e2]
      exact hnew
  · have hi2 : i < us.length := by simp at hj; omega
    by_cases hj2 : j < us.length
    · have := h.apart i j hij hj2
      simpa [List.getElem_append_left hi2, List.getElem_append_left hj2] using this
    · have hj3 : j = us.length := by simp at hj; omega
      subst hj3
      simp only [List.getElem_append_left hi2]
      have hx : (us ++ [u])[us.length]'hj = u := by simp
      rw [hx]
      cases hv : us[i].ownBlock with
      | none => exact .inl rfl
      | some b =>
        right
        intro he
        have h1 := (h.inner i hi2).2 b hv
        have h2 := (hu.lt b he.symm).1
        omega
  · refine (owns_below h2.outer.1 hb).kept hg ?_
    rcases ha with ha | ha
    · rw [ha]; cases v2.ownBlock <;> simp
    · cases hv : v2.ownBlock with
      | none => exact .inl rfl
      | some b => right; rw [hv] at ha; exact Ne.symm ha
  · exact ⟨hin (owns_below (h2.inner i hi).1 hb), fun k hk => Nat.lt_of_lt_of_le ((h2.inner i hi).2 k hk) (by omega)⟩
  · right
    show some g ≠ _
    intro e
    rcases hgc with hgc | hgc
    · rcases ha with ha | ha
      · rw [hgc] at ha; cases ha
      · exact ha (hgc.trans e)
    · have := h2.outer.2 g e.symm
      omega
  · intro B c t fr hB ht
    have hlt := (Array.getElem?_eq_some_iff.1 hB).1
    refine ((hg.block B (by omega) (fun e => ?_)).trans (hb.block B hlt)).trans hB
    obtain ⟨c1, f1, hc1⟩ := row_cells h.outer.1 e.symm
    rw [hB] at hc1
    simp at hc1
    exact ht hc1.2.1

end Go.Proofs.Ytjhjfopokiaiiaa
