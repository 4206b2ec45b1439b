/-
  A DRAWN TABLE: what stands while its rows are written.
-/
import Derived.Test.YtfcbhcjgjbcjdacDoorDraw
import Derived.Test.YtfcbhcjgjbcjdacDoorZero
namespace Go.Proofs.YtfcbhcjgjbcjdacDoor
set_option linter.unusedVariables false
set_option linter.unusedSimpArgs false
open Go.RowKit

/-- A table's numbers: as many rows as told, each as long. -/
def Square (n : Nat) (xss : List (List Int)) : Prop := xss.length = n ∧ ∀ xs ∈ xss, xs.length = n
theorem Square.set {n : Nat} {xss : List (List Int)} (h : Square n xss) (k : Nat) (hk : k < xss.length) (i : Nat) (x : Int) : Square n (xss.set k (xss[k].set i x)) := by
  refine ⟨by rw [List.length_set]; exact h.1, fun xs hx => ?_⟩
  rcases List.mem_or_eq_of_mem_set hx with hx | hx
  · exact h.2 xs hx
  · rw [hx, List.length_set]; exact h.2 _ (List.getElem_mem hk)
theorem square_zrows (n : Nat) : Square n (zrows n) := ⟨by simp [zrows], fun xs hx => by rw [List.eq_of_mem_replicate hx]; exact zrow_len n⟩

/-- The reader is at most q places on, the rows are owned; nothing else of what there was has turned. -/
def DTab (w : World) (r M cap n lo hi : Nat) (A : Option Addr) (v : Value) (us : List Value) (q : Nat) (W : World) : Prop :=
  ∃ p xss, p ≤ q ∧ W.heap[r]? = some (.cells (rcells A M cap p) 86 (0, 0)) ∧ Square n xss ∧ OwnsRows W lo hi v us xss ∧ Within r (r + 1) w W
theorem DTab.more {w W : World} {r M cap n lo hi q q' : Nat} {A : Option Addr} {v : Value} {us : List Value} (h : DTab w r M cap n lo hi A v us q W) (hq : q ≤ q') : DTab w r M cap n lo hi A v us q' W := by
  obtain ⟨p, xss, hp, h1, h2, h3, h4⟩ := h
  exact ⟨p, xss, by omega, h1, h2, h3, h4⟩
theorem DTab.drew {w W : World} {r M cap n lo hi q : Nat} {A : Option Addr} {v : Value} {us : List Value} (h : DTab w r M cap n lo hi A v us q W) : DTab w r M cap n lo hi A v us q W.drew := by
  obtain ⟨p, xss, hp, h1, h2, h3, h4⟩ := h
  exact ⟨p, xss, hp, h1, h2, h3.drewN 1, h4.drewN 1⟩
theorem bytes_within {w w' : World} {r M : Nat} {A : Option Addr} (h : Bytes w r A M) (hw : Within r (r + 1) w w') : Bytes w' r A M := fun i hi => by
  obtain ⟨b, off, x, hA, hb, hc, hx⟩ := h i hi
  have hlt : b < w.heap.size := World.block_lt_of_cell? w _ hc
  exact ⟨b, off, x, hA, hb, (World.cell?_of_block (a := ⟨b, off + i, none⟩) (hw.block b hlt (by omega))).trans hc, hx⟩
theorem dt_pick {w W : World} {r M cap n lo hi q m : Nat} {A : Option Addr} {v : Value} {us : List Value} (h : DTab w r M cap n lo hi A v us q W) (hxr : Bytes w r A M) (hM : M ≤ 2000) (hlo : r < lo) (hq : q ≤ 100000) (hm : 1 ≤ m) (hm2 : m ≤ 1000) :
    Calls Tryd.prog 63 #[.pointer (some ⟨r, 0, none⟩), .int .i64 m] W fun e W' => ∃ x : Nat, x < m ∧ e = .returned (.int .i64 x) ∧ DTab w r M cap n lo hi A v us (q + 1) W' := by
  obtain ⟨p, xss, hp, hr, hsq, ho, hw⟩ := h
  refine (pick_any W r p m M cap A hr (bytes_within hxr hw) (by omega) hM hm hm2).mono ?_
  rintro e W' ⟨x, hx, rfl, hr4, hw4⟩
  exact ⟨x, hx, rfl, p + 1, xss, by omega, hr4, hsq, ho.kept hw4 (.inr (by omega)), hw.trans hw4⟩
theorem dt_pickw {w W : World} {r M cap n lo hi q m : Nat} {A : Option Addr} {v : Value} {us : List Value} (h : DTab w r M cap n lo hi A v us q W) (hxr : Bytes w r A M) (hM : M ≤ 2000) (hlo : r < lo) (hq : q ≤ 100000) (hm : 1 ≤ m) (hm2 : m ≤ 1000) :
    Calls Tryd.prog 63 #[.pointer (some ⟨r, 0, none⟩), .int .i64 m] W fun e W' => ∃ x : Nat, x < m ∧ e = .returned (.int .i64 x) ∧ DTab w r M cap n lo hi A v us (q + 1) W' ∧ Within r (r + 1) W W' := by
  obtain ⟨p, xss, hp, hr, hsq, ho, hw⟩ := h
  refine (pick_any W r p m M cap A hr (bytes_within hxr hw) (by omega) hM hm hm2).mono ?_
  rintro e W' ⟨x, hx, rfl, hr4, hw4⟩
  exact ⟨x, hx, rfl, ⟨p + 1, xss, by omega, hr4, hsq, ho.kept hw4 (.inr (by omega)), hw.trans hw4⟩, hw4⟩
theorem DTab.alloc {w W : World} {r M cap n lo hi q : Nat} {A : Option Addr} {v : Value} {us : List Value} (h : DTab w r M cap n lo hi A v us q W) (o : Obj) : DTab w r M cap n lo hi A v us q (W.alloc o) := by
  obtain ⟨p, xss, hp, hr, hsq, ho, hw⟩ := h
  have hb := (Below.refl W.heap.size W).alloc (Nat.le_refl _) o
  exact ⟨p, xss, hp, (hb.block r (Array.getElem?_eq_some_iff.1 hr).1).trans hr, hsq, ho.below hb, hw.trans ⟨hb.os, hb.tape, hb.output, hb.size, fun k hk _ => hb.block k hk⟩⟩
theorem owns_top {W : World} {lo lo' hi : Nat} {v : Value} {us : List Value} {xss : List (List Int)} (h : OwnsRows W lo hi v us xss) (hl : lo' ≤ lo) : OwnsRows W lo' W.heap.size v us xss :=
  ⟨h.len, OwnsAt.of (owns_mono h.outer.1 hl), fun i hi => OwnsAt.of (owns_mono (h.inner i hi).1 hl), h.apart⟩
/-- A row of it. -/
theorem dt_row {w W : World} {r M cap n lo hi q G c : Nat} {A : Option Addr} {us : List Value} (h : DTab w r M cap n lo hi A (.slice (some ⟨G, 0, none⟩) n c) us q W) (k : Nat) (hk : k < n) :
    ∃ (hu : k < us.length) (g c2 : Nat), us[k] = .slice (some ⟨g, 0, none⟩) n c2 ∧ W.cell? ⟨G, k, none⟩ = some (.slice (some ⟨g, 0, none⟩) n c2) ∧ W.frozen? ⟨G, k, none⟩ = false := by
  obtain ⟨p, xss, hp, hr, hsq, ho, hw⟩ := h
  have hul : k < us.length := by rw [ho.len, hsq.1]; exact hk
  have hin := ho.inner k hul
  have hl : (xss[k]'(by rw [hsq.1]; exact hk)).length = n := hsq.2 _ (List.getElem_mem _)
  rcases hin.1.2 with ⟨_, hz⟩ | ⟨g, c2, cur, hs, _⟩
  · rw [hl] at hz
    first | omega | (have := congrArg List.length hz.2; simp [vals, hl] at this; omega) | (obtain ⟨hz, _⟩ := hz; omega)
  · rw [hl] at hs
    have ho1 := ho.outer.1
    rw [hsq.1] at ho1
    refine ⟨hul, g, c2, hs, ?_, ho1.frozenAt k⟩
    have hx := ho1.cellAt k (by omega)
    rw [hx, List.getElem?_eq_getElem hul, hs]
theorem vals_set2 (xs : List Int) (i : Nat) (y : Int) : (vals xs).set i (.int .i64 y) = vals (xs.set i y) := by simp [vals, List.map_set]
theorem within_grown2 {w W W1 : World} {r : Nat} {row : Option Nat} (h : Within r (r + 1) w W) (hg : W.grownBy W1 row) (hr : ∀ k, row = some k → w.heap.size ≤ k) : Within r (r + 1) w W1 :=
  ⟨hg.os.trans h.os, hg.tape.trans h.tape, hg.output.trans h.output, Nat.le_trans h.size hg.size,
    fun k hk ho => (hg.block k (Nat.lt_of_lt_of_le hk h.size) (fun e => by have := hr k e.symm; omega)).trans (h.block k hk ho)⟩
/-- A number of it. -/
theorem dt_cell {w W : World} {r M cap n lo hi q g c2 : Nat} {A : Option Addr} {v : Value} {us : List Value} (h : DTab w r M cap n lo hi A v us q W) (k : Nat) (hk : k < us.length) (hu : us[k] = .slice (some ⟨g, 0, none⟩) n c2) (i : Nat) (hi' : i < n) :
    ∃ x, W.cell? ⟨g, i, none⟩ = some (.int .i64 x) ∧ W.frozen? ⟨g, i, none⟩ = false := by
  obtain ⟨p, xss, hp, hr, hsq, ho, hw⟩ := h
  have hin := (ho.inner k hk).1
  have hl : (xss[k]'(ho.len ▸ hk)).length = n := hsq.2 _ (List.getElem_mem _)
  rw [hl, hu] at hin
  have hx := hin.cellAt i (by omega)
  refine ⟨(xss[k]'(ho.len ▸ hk))[i]'(by omega), ?_, hin.frozenAt i⟩
  rw [hx]
  unfold vals
  rw [List.getElem?_map, List.getElem?_eq_getElem (by omega)]
  rfl
theorem dt_outer {w W : World} {r M cap n lo hi q G c g c2 : Nat} {A : Option Addr} {us : List Value} (h : DTab w r M cap n lo hi A (.slice (some ⟨G, 0, none⟩) n c) us q W) (k : Nat) (hk : k < us.length) (hu : us[k] = .slice (some ⟨g, 0, none⟩) n c2) :
    W.cell? ⟨G, k, none⟩ = some (.slice (some ⟨g, 0, none⟩) n c2) := by
  obtain ⟨p, xss, hp, hr, hsq, ho, hw⟩ := h
  have ho1 := ho.outer.1
  rw [hsq.1] at ho1
  have hx := ho1.cellAt k (by rw [ho.len, hsq.1] at hk; omega)
  rw [hx, List.getElem?_eq_getElem hk, hu]
theorem dt_put {w W : World} {r M cap n lo hi q g c2 : Nat} {A : Option Addr} {v : Value} {us : List Value} (h : DTab w r M cap n lo hi A v us q W) (hrl : r < lo) (hwl : w.heap.size ≤ lo) (k : Nat) (hk : k < us.length) (hu : us[k] = .slice (some ⟨g, 0, none⟩) n c2) (i : Nat) (x : Int) :
    DTab w r M cap n lo hi A v us q (W.setCell ⟨g, i, none⟩ (.int .i64 x)) := by
  obtain ⟨p, xss, hp, hr, hsq, ho, hw⟩ := h
  have hin := (ho.inner k hk).1
  have hxk : k < xss.length := ho.len ▸ hk
  have hl : (xss[k]).length = n := hsq.2 _ (List.getElem_mem _)
  have hgl : lo ≤ g := (hin.lt g (by rw [hu]; rfl)).1
  have hnew : Owns (W.setCell ⟨g, i, none⟩ (.int .i64 x)) lo us[k] (xss[k].set i x) := by
    rw [hu] at hin ⊢
    rw [hl] at hin
    have := (hin.stored i (.int .i64 x)).1
    rw [vals_set2] at this
    unfold Owns
    rw [List.length_set, hl]
    simpa using this
  refine ⟨p, xss.set k (xss[k].set i x), hp, ?_, hsq.set k hxk i x, ho.turn k hk (by rw [hu]; exact grown_setCell W g i _) _ hnew, within_grown2 hw (grown_setCell W g i _) (fun k hk => by simp at hk; omega)⟩
  rw [Below.heap_setCell _ _ _ _ (by show r ≠ g; omega)]
  exact hr

end Go.Proofs.YtfcbhcjgjbcjdacDoor
