/-
  WHERE WHAT THE CALL MADE LIES: rows between two heap sizes; what a write to some of them leaves alone; lists of lists.
-/
import Derived.Test.YtjijkgmeddeihaaDoorBase
namespace Go.Proofs.YtjijkgmeddeihaaDoor
set_option linter.unusedVariables false
set_option linter.unusedSimpArgs false
open Go.RowKit

theorem addr_add (g j : Nat) : (⟨g, 0, none⟩ : Addr).add j = ⟨g, 0 + j, none⟩ := by unfold Addr.add; split <;> simp_all

/-- Of what there was, nothing has turned but what lies from lo on, below hi. -/
structure Within (lo hi : Nat) (w w' : World) : Prop where
  os : w'.os = w.os
  tape : w'.tape = w.tape
  output : w'.output = w.output
  size : w.heap.size ≤ w'.heap.size
  block : ∀ k, k < w.heap.size → k < lo ∨ hi ≤ k → w'.heap[k]? = w.heap[k]?

theorem Within.refl (lo hi : Nat) (w : World) : Within lo hi w w := ⟨rfl, rfl, rfl, Nat.le_refl _, fun _ _ _ => rfl⟩
theorem Within.trans {lo hi : Nat} {w w1 w2 : World} (h : Within lo hi w w1) (h2 : Within lo hi w1 w2) : Within lo hi w w2 :=
  ⟨h2.os.trans h.os, h2.tape.trans h.tape, h2.output.trans h.output, Nat.le_trans h.size h2.size, fun k hk hr => (h2.block k (Nat.lt_of_lt_of_le hk h.size) hr).trans (h.block k hk hr)⟩
theorem Within.of_grown {w w' : World} {row : Option Nat} {lo hi : Nat} (h : w.grownBy w' row) (hr : ∀ k, row = some k → lo ≤ k ∧ k < hi) : Within lo hi w w' :=
  ⟨h.os, h.tape, h.output, h.size, fun k hk ho => h.block k hk (fun e => by have := hr k e.symm; omega)⟩
theorem Within.drewN {lo hi : Nat} {w w' : World} (h : Within lo hi w w') (n : Nat) : Within lo hi w (w'.drewN n) := by
  exact ⟨h.os, h.tape, h.output, h.size, h.block⟩
theorem Below.within {w0 w w' : World} {lo hi : Nat} (h : Below w0.heap.size w0 w) (hw : Within lo hi w w') (hlo : w0.heap.size ≤ lo) : Below w0.heap.size w0 w' :=
  ⟨hw.os.trans h.os, hw.tape.trans h.tape, hw.output.trans h.output, Nat.le_trans h.size hw.size,
    fun k hk => (hw.block k (Nat.lt_of_lt_of_le hk h.size) (.inl (Nat.lt_of_lt_of_le hk hlo))).trans (h.block k hk)⟩
theorem within_of_below {w w' : World} (h : Below w.heap.size w w') (lo : Nat) : Within lo lo w w' := ⟨h.os, h.tape, h.output, h.size, fun k hk _ => h.block k hk⟩

/-- A slice of one-cell elements that the call owns, its row from lo on, below hi. -/
def OwnsAt (w : World) (lo hi : Nat) (e : TypeId) (v : Value) (n : Nat) (cs : List Value) : Prop :=
  w.ownsRow lo e 1 v n cs ∧ ∀ k, v.ownBlock = some k → k < hi
theorem OwnsAt.of {w : World} {lo : Nat} {e : TypeId} {v : Value} {n : Nat} {cs : List Value} (h : w.ownsRow lo e 1 v n cs) : OwnsAt w lo w.heap.size e v n cs := ⟨h, fun k hk => (h.lt k hk).2⟩
theorem OwnsAt.kept {w w' : World} {lo hi a b : Nat} {e : TypeId} {v : Value} {n : Nat} {cs : List Value} (h : OwnsAt w lo hi e v n cs) (hw : Within a b w w') (hd : hi ≤ a ∨ b ≤ lo) : OwnsAt w' lo hi e v n cs := by
  refine ⟨⟨h.1.1, ?_⟩, h.2⟩
  rcases h.1.2 with hn | ⟨g, cap, cur, rfl, hb, hgg, rest⟩
  · exact .inl hn
  · refine .inr ⟨g, cap, cur, rfl, hb, ?_, rest⟩
    have := h.2 g rfl
    rw [hw.block g (Array.getElem?_eq_some_iff.1 hgg).1 (by omega)]
    exact hgg
theorem OwnsAt.below {w w' : World} {lo hi : Nat} {e : TypeId} {v : Value} {n : Nat} {cs : List Value} (h : OwnsAt w lo hi e v n cs) (hb : Below w.heap.size w w') : OwnsAt w' lo hi e v n cs :=
  ⟨h.1.kept (grown_of_below hb) (by cases v.ownBlock <;> simp), h.2⟩
theorem OwnsAt.drewN {w : World} {lo hi : Nat} {e : TypeId} {v : Value} {n : Nat} {cs : List Value} (h : OwnsAt w lo hi e v n cs) (q : Nat) : OwnsAt (w.drewN q) lo hi e v n cs := h
theorem OwnsAt.wide {w : World} {lo lo' hi hi' : Nat} {e : TypeId} {v : Value} {n : Nat} {cs : List Value} (h : OwnsAt w lo hi e v n cs) (hl : lo' ≤ lo) (hh : hi ≤ hi') : OwnsAt w lo' hi' e v n cs :=
  ⟨owns_mono h.1 hl, fun k hk => Nat.lt_of_lt_of_le (h.2 k hk) hh⟩

abbrev OwnsInts (w : World) (lo hi : Nat) (v : Value) (xs : List Int) : Prop := OwnsAt w lo hi 3 v xs.length (vals xs)

/-- A list of lists that the call owns: the outer row holds the slices us, each of them owns its list, no two share a row. -/
structure OwnsRows (w : World) (lo hi : Nat) (v : Value) (us : List Value) (xss : List (List Int)) : Prop where
  len : us.length = xss.length
  outer : OwnsAt w lo hi 22 v xss.length us
  inner : ∀ (i : Nat) (h : i < us.length), OwnsInts w lo hi us[i] (xss[i]'(len ▸ h))
  apart : ∀ (i j : Nat) (hij : i < j) (hj : j < us.length), (us[i]'(Nat.lt_trans hij hj)).ownBlock = none ∨ (us[i]'(Nat.lt_trans hij hj)).ownBlock ≠ us[j].ownBlock

theorem OwnsRows.kept {w w' : World} {lo hi a b : Nat} {v : Value} {us : List Value} {xss : List (List Int)} (h : OwnsRows w lo hi v us xss) (hw : Within a b w w') (hd : hi ≤ a ∨ b ≤ lo) : OwnsRows w' lo hi v us xss :=
  ⟨h.len, h.outer.kept hw hd, fun i hi' => (h.inner i hi').kept hw hd, h.apart⟩
theorem OwnsRows.below {w w' : World} {lo hi : Nat} {v : Value} {us : List Value} {xss : List (List Int)} (h : OwnsRows w lo hi v us xss) (hb : Below w.heap.size w w') : OwnsRows w' lo hi v us xss :=
  ⟨h.len, h.outer.below hb, fun i hi' => (h.inner i hi').below hb, h.apart⟩
theorem OwnsRows.drewN {w : World} {lo hi : Nat} {v : Value} {us : List Value} {xss : List (List Int)} (h : OwnsRows w lo hi v us xss) (q : Nat) : OwnsRows (w.drewN q) lo hi v us xss :=
  ⟨h.len, h.outer.drewN q, fun i hi' => (h.inner i hi').drewN q, h.apart⟩
theorem OwnsRows.wide {w : World} {lo lo' hi hi' : Nat} {v : Value} {us : List Value} {xss : List (List Int)} (h : OwnsRows w lo hi v us xss) (hl : lo' ≤ lo) (hh : hi ≤ hi') : OwnsRows w lo' hi' v us xss :=
  ⟨h.len, h.outer.wide hl hh, fun i hi' => (h.inner i hi').wide hl hh, h.apart⟩

/-- A list of lists that can be read. -/
def IntRows (w : World) (v : Value) (xss : List (List Int)) : Prop :=
  ∃ (A : Option Addr) (cap : Nat) (us : List Value), v = .slice A xss.length cap ∧ xss.length ≤ maxLen ∧ us.length = xss.length ∧
    ∀ (i : Nat) (h : i < xss.length) (u : Value), us[i]? = some u → (∃ b off, A = some ⟨b, off, none⟩ ∧ w.cell? ⟨b, off + i, none⟩ = some u) ∧ Ints w u xss[i]

theorem IntRows.at {w : World} {v : Value} {xss : List (List Int)} (h : IntRows w v xss) : ∃ A cap, v = .slice A xss.length cap ∧ xss.length ≤ maxLen ∧
    ∀ (i : Nat) (h : i < xss.length), ∃ b off u, A = some ⟨b, off, none⟩ ∧ w.cell? ⟨b, off + i, none⟩ = some u ∧ Ints w u xss[i] := by
  obtain ⟨A, cap, us, hv, hm, hl, hc⟩ := h
  refine ⟨A, cap, hv, hm, fun i hi => ?_⟩
  obtain ⟨⟨b, off, hA, hcell⟩, hx⟩ := hc i hi us[i] (List.getElem?_eq_getElem (by omega))
  exact ⟨b, off, us[i], hA, hcell, hx⟩

theorem IntRows.below {w w' : World} {v : Value} {xss : List (List Int)} (h : IntRows w v xss) (hb : Below w.heap.size w w') : IntRows w' v xss := by
  obtain ⟨A, cap, us, hv, hm, hl, hc⟩ := h
  refine ⟨A, cap, us, hv, hm, hl, fun i hi u hu => ?_⟩
  obtain ⟨⟨b, off, hA, hcell⟩, hx⟩ := hc i hi u hu
  exact ⟨⟨b, off, hA, (hb.cell (p := ⟨b, off + i, none⟩) (World.block_lt_of_cell? w _ hcell)).trans hcell⟩, hx.below hb⟩
theorem IntRows.drewN {w : World} {v : Value} {xss : List (List Int)} (h : IntRows w v xss) (n : Nat) : IntRows (w.drewN n) v xss := h

theorem ints_at_owns {w : World} {lo hi : Nat} {v : Value} {xs : List Int} (h : OwnsInts w lo hi v xs) : Ints w v xs := ints_of_owns h.1

theorem rows_of_owns {w : World} {lo hi : Nat} {v : Value} {us : List Value} {xss : List (List Int)} (h : OwnsRows w lo hi v us xss) : IntRows w v xss := by
  have hl := h.len
  rcases h.outer.1.2 with ⟨rfl, hn⟩ | ⟨g, cap, cur, rfl, hb, hg, hnc, hm, hcs, htake⟩
  · have : xss = [] := by simpa using hn
    subst this
    exact ⟨none, 0, us, rfl, by simp [maxLen], hl, fun i hi => by simp at hi⟩
  · refine ⟨some ⟨g, 0, none⟩, cap, us, rfl, by omega, hl, fun i hi u hu => ?_⟩
    have hi' : i < us.length := by omega
    have hui : us[i] = u := by rw [List.getElem?_eq_getElem hi'] at hu; simpa using hu
    refine ⟨⟨g, 0, rfl, ?_⟩, ?_⟩
    · have hc := h.outer.1.cells (g := g) rfl i u hu
      have hadd : (⟨g, 0, none⟩ : Addr).add i = ⟨g, 0 + i, none⟩ := by unfold Addr.add; split <;> simp_all
      rw [hadd] at hc
      exact hc
    · rw [← hui]; exact ints_at_owns (h.inner i hi')

/-- How many numbers there are in all. -/
def total (xss : List (List Int)) : Nat := (xss.map List.length).sum
theorem total_take_succ (xss : List (List Int)) (k : Nat) (h : k < xss.length) : total (xss.take (k + 1)) = total (xss.take k) + xss[k].length := by
  unfold total
  rw [List.take_succ_eq_append_getElem h, List.map_append, List.sum_append]
  simp only [List.map_cons, List.map_nil, List.sum_cons, List.sum_nil, Nat.add_zero]
theorem total_take_le (xss : List (List Int)) (k : Nat) : total (xss.take k) ≤ total xss := by
  unfold total
  conv => rhs; rw [← List.take_append_drop k xss]
  rw [List.map_append, List.sum_append]
  omega
theorem row_le_total {xss : List (List Int)} {k : Nat} (h : k < xss.length) : xss[k].length ≤ total xss := by
  have := total_take_le xss (k + 1)
  rw [total_take_succ xss k h] at this
  omega

theorem grown_setCell (W : World) (b k : Nat) (v : Value) : W.grownBy (W.setCell ⟨b, k, none⟩ v) (some b) :=
  ⟨rfl, rfl, rfl, by simp [World.setCell], fun j _ hj => Below.heap_setCell _ _ _ j (fun e => hj (by rw [e]))⟩

/-- A list of lists under way: the first rows stand. -/
structure RowsTo (w : World) (lo B n : Nat) (us : List Value) (xss : List (List Int)) : Prop where
  len : us.length ≤ xss.length
  outer : w.ownsRow lo 22 1 (.slice (some ⟨B, 0, none⟩) n n) n (us ++ List.replicate (n - us.length) (.slice none 0 0))
  inner : ∀ (i : Nat) (h : i < us.length), OwnsInts w (B + 1) w.heap.size us[i] (xss[i]'(Nat.lt_of_lt_of_le h len))
  apart : ∀ (i j : Nat) (hij : i < j) (hj : j < us.length), (us[i]'(Nat.lt_trans hij hj)).ownBlock = none ∨ (us[i]'(Nat.lt_trans hij hj)).ownBlock ≠ us[j].ownBlock

theorem set_push {us : List Value} {n : Nat} (h : us.length < n) (z u : Value) : (us ++ List.replicate (n - us.length) z).set us.length u = (us ++ [u]) ++ List.replicate (n - (us ++ [u]).length) z := by
  obtain ⟨m, hm⟩ : ∃ m, n - us.length = m + 1 := ⟨n - us.length - 1, by omega⟩
  have e : n - (us ++ [u]).length = m := by simp; omega
  rw [hm, e, List.replicate_succ, List.set_append_right _ _ (Nat.le_refl _), Nat.sub_self, List.set_cons_zero]
  simp

theorem RowsTo.push {wr w2 : World} {lo B n : Nat} {us : List Value} {xss : List (List Int)} (h : RowsTo wr lo B n us xss) (hn : us.length < xss.length) (hne : n = xss.length) (hb : Below wr.heap.size wr w2) (hB : B < wr.heap.size)
    {u : Value} (hu : Owns w2 wr.heap.size u (xss[us.length]'hn)) : RowsTo (w2.setCell ⟨B, us.length, none⟩ u) lo B n (us ++ [u]) xss := by
  have hsz : (w2.setCell ⟨B, us.length, none⟩ u).heap.size = w2.heap.size := by simp [World.setCell]
  have hwi : Within B (B + 1) w2 (w2.setCell ⟨B, us.length, none⟩ u) := Within.of_grown (grown_setCell w2 B us.length u) (fun k hk => by cases hk; omega)
  have hs := hb.size
  have hold : ∀ (i : Nat) (hi : i < us.length), OwnsInts (w2.setCell ⟨B, us.length, none⟩ u) (B + 1) (w2.setCell ⟨B, us.length, none⟩ u).heap.size us[i] (xss[i]'(Nat.lt_of_lt_of_le hi h.len)) := fun i hi =>
    (((h.inner i hi).below hb).kept hwi (.inr (Nat.le_refl _))).wide (Nat.le_refl _) (by rw [hsz]; exact hs)
  have hnew : OwnsInts (w2.setCell ⟨B, us.length, none⟩ u) (B + 1) (w2.setCell ⟨B, us.length, none⟩ u).heap.size u (xss[us.length]'hn) :=
    ((OwnsAt.of hu).kept hwi (.inr (by omega))).wide (by omega) (by rw [hsz]; exact Nat.le_refl _)
  refine ⟨by simp; omega, ?_, fun i hi => ?_, fun i j hij hj => ?_⟩
  · have := ((owns_below h.outer hb).stored us.length u).1
    rw [set_push (by omega)] at this
    exact this
  · by_cases hi2 : i < us.length
    · have := hold i hi2
      simpa [List.getElem_append_left hi2] using this
    · have hi3 : i = us.length := by simp at hi; omega
      subst hi3
      simpa using hnew
  · have hi2 : i < us.length := by simp at hj; omega
    by_cases hj2 : j < us.length
    · have := h.apart i j hij hj2
      simpa [List.getElem_append_left hi2, List.getElem_append_left hj2] using this
    · have hj3 : j = us.length := by simp at hj; omega
      subst hj3
      simp only [List.getElem_append_left hi2]
      have hx : (us ++ [u])[us.length]'hj = u := by simp
      rw [hx]
      cases hv : us[i].ownBlock with
      | none => exact .inl rfl
      | some b =>
        right
        intro he
        have h1 := (h.inner i hi2).2 b hv
        have h2 := (hu.lt b he.symm).1
        omega

theorem RowsTo.done {w : World} {lo B n : Nat} {us : List Value} {xss : List (List Int)} (h : RowsTo w lo B n us xss) (hn : n = xss.length) (hl : us.length = xss.length) (hlo : lo ≤ B) : OwnsRows w lo w.heap.size (.slice (some ⟨B, 0, none⟩) n n) us xss := by
  refine ⟨hl, ?_, fun i hi => (h.inner i hi).wide (by omega) (Nat.le_refl _), h.apart⟩
  have := h.outer
  rw [hl, ← hn, Nat.sub_self, List.replicate_zero, List.append_nil] at this
  rw [← hn]
  exact OwnsAt.of this

/-- One of the rows has turned, in its own block. -/
theorem OwnsRows.turn {w w' : World} {lo hi : Nat} {v : Value} {us : List Value} {zs : List (List Int)} (h : OwnsRows w lo hi v us zs) (j : Nat) (hj : j < us.length) (hg : w.grownBy w' us[j].ownBlock) (ys : List Int)
    (hnew : Owns w' lo us[j] ys) : OwnsRows w' lo hi v us (zs.set j ys) := by
  refine ⟨by rw [List.length_set]; exact h.len, ⟨?_, h.outer.2⟩, fun i hi' => ?_, h.apart⟩
  · rw [List.length_set]
    refine h.outer.1.kept hg ?_
    cases hv : v.ownBlock with
    | none => exact .inl rfl
    | some b =>
      right
      intro he
      rcases h.outer.1.2 with ⟨rfl, _⟩ | ⟨g, cap, cur, rfl, _, hgb, _⟩
      · simp [Value.ownBlock] at hv
      · obtain rfl : g = b := by simpa [Value.ownBlock] using hv
        rcases (h.inner j hj).1.2 with ⟨hz, _⟩ | ⟨g2, cap2, cur2, hz, _, hgb2, _⟩
        · rw [hz] at he; simp [Value.ownBlock] at he
        · rw [hz] at he
          obtain rfl : g = g2 := by simpa [Value.ownBlock] using he
          rw [hgb] at hgb2
          simp at hgb2
  · by_cases e : i = j
    · subst e
      simp only [List.getElem_set_self]
      exact ⟨hnew, (h.inner i hi').2⟩
    · have hi2 : i < zs.length := h.len ▸ hi'
      rw [List.getElem_set_ne (fun he => e he.symm)]
      refine ⟨(h.inner i hi').1.kept hg ?_, (h.inner i hi').2⟩
      rcases Nat.lt_or_gt_of_ne e with hlt | hgt
      · exact h.apart i j hlt hj
      · rcases h.apart j i hgt hi' with hn | hn
        · rw [hn]
          cases us[i].ownBlock <;> simp
        · exact .inr (Ne.symm hn)

/-- The marks of a list of lists, from a number on. -/
def markRows (k : Int) : List (List Int) → List (List Int)
  | [] => []
  | xs :: xss => (List.range xs.length).map (fun (i : Nat) => k + i) :: markRows (k + xs.length) xss
theorem markRows_len : ∀ (k : Int) (xss : List (List Int)), (markRows k xss).length = xss.length
  | _, [] => rfl
  | k, xs :: xss => by simp [markRows, markRows_len (k + xs.length) xss]
theorem markRows_snoc : ∀ (k : Int) (xss : List (List Int)) (xs : List Int), markRows k (xss ++ [xs]) = markRows k xss ++ [(List.range xs.length).map (fun (i : Nat) => k + total xss + i)]
  | k, [], xs => by simp [markRows, total]
  | k, ys :: xss, xs => by
    rw [List.cons_append, markRows, markRows_snoc (k + ys.length) xss xs, markRows]
    simp only [List.cons_append, List.cons.injEq, true_and]
    have e : (total (ys :: xss) : Int) = ys.length + total xss := by simp [total]
    rw [e]
    congr 2
    apply List.map_congr_left
    intro i _
    omega
/-- So many rows are marked. -/
def markTo (k : Int) (xss : List (List Int)) (j : Nat) : List (List Int) := markRows k (xss.take j) ++ xss.drop j
theorem markTo_len (k : Int) (xss : List (List Int)) (j : Nat) : (markTo k xss j).length = xss.length := by
  unfold markTo; rw [List.length_append, markRows_len, ← List.length_append, List.take_append_drop]
theorem markTo_at (k : Int) (xss : List (List Int)) (j : Nat) (h : j < xss.length) : (markTo k xss j)[j]? = some xss[j] := by
  unfold markTo
  have e : (markRows k (xss.take j)).length = j := by rw [markRows_len, List.length_take]; omega
  rw [List.getElem?_append_right (by omega), e, Nat.sub_self, List.getElem?_drop, Nat.add_zero, List.getElem?_eq_getElem h]
theorem markTo_step (k : Int) (xss : List (List Int)) (j : Nat) (h : j < xss.length) : (markTo k xss j).set j ((List.range xss[j].length).map (fun (i : Nat) => k + total (xss.take j) + i)) = markTo k xss (j + 1) := by
  unfold markTo
  have e : (markRows k (xss.take j)).length = j := by rw [markRows_len, List.length_take]; omega
  rw [List.set_append_right _ _ (by omega), e, Nat.sub_self, List.take_succ_eq_append_getElem h, markRows_snoc, List.drop_eq_getElem_cons h, List.set_cons_zero]
  simp
theorem markTo_zero (k : Int) (xss : List (List Int)) : markTo k xss 0 = xss := by simp [markTo, markRows]
theorem markTo_all (k : Int) (xss : List (List Int)) : markTo k xss xss.length = markRows k xss := by simp [markTo]

end Go.Proofs.YtjijkgmeddeihaaDoor
