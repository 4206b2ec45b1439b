/-
  spec.MarketTurned.
-/
import Derived.Test.YtjbgjebbfkhidaaCopies
import Derived.Test.YtjbgjebbfkhidaaMktL
namespace Go.Proofs.Ytjbgjebbfkhidaa
set_option linter.unusedVariables false
set_option linter.unusedSimpArgs false
open Go.RowKit

def turnedL (ls rs : List (List Int)) : List (List Int) := if mktOk ls rs = true then rs else []
def turnedR (ls rs : List (List Int)) : List (List Int) := if mktOk ls rs = true then ls else []
theorem turned_no {ls rs : List (List Int)} (h : mktOk ls rs = false) : turnedL ls rs = [] ∧ turnedR ls rs = [] := by unfold turnedL turnedR; rw [h]; exact ⟨rfl, rfl⟩
theorem turned_yes {ls rs : List (List Int)} (h : mktOk ls rs = true) : turnedL ls rs = rs ∧ turnedR ls rs = ls := ⟨if_pos h, if_pos h⟩
theorem mkt_rows {ls rs : List (List Int)} (h : mktOk ls rs = true) : (∀ i (hi : i < ls.length), ls[i].length = ls.length) ∧ (∀ i (hi : i < rs.length), rs[i].length = ls.length) := by
  obtain ⟨⟨h1, h5, hl⟩, hs1, hs2⟩ := mktOk_parts h
  refine ⟨fun i hi => (rank_parts (List.all_eq_true.1 hs1 ls[i] (List.getElem_mem _))).1, fun i hi => ?_⟩
  have := (rank_parts (List.all_eq_true.1 hs2 rs[i] (List.getElem_mem _))).1
  omega
theorem total_le (n : Nat) : ∀ (xss : List (List Int)), (∀ i (hi : i < xss.length), xss[i].length = n) → total xss = xss.length * n
  | [], _ => by simp [total]
  | x :: t, h => by
    have h0 := h 0 (by simp)
    have ht := total_le n t (fun i hi => by have := h (i + 1) (by simp; omega); simpa using this)
    simp [total] at ht h0 ⊢
    rw [ht, h0, Nat.add_mul]
    omega
theorem turned_fits (ls rs : List (List Int)) : FitsM (turnedL ls rs) (turnedR ls rs) := by
  unfold FitsM
  cases h : mktOk ls rs with
  | false => rw [(turned_no h).1, (turned_no h).2]; simp [total]
  | true =>
    obtain ⟨⟨h1, h5, hl⟩, _⟩ := mktOk_parts h
    obtain ⟨q1, q2⟩ := mkt_rows h
    rw [(turned_yes h).1, (turned_yes h).2, total_le _ _ q1, total_le _ _ q2]
    have : ls.length * ls.length ≤ 5 * 5 := Nat.mul_le_mul h5 h5
    rw [hl]
    omega
theorem ret_mi2 {fn : Func} {p u : Tmp} (h : fn.results = #[.cell p 25, .tmp u]) (tmps : Array Value) (w : World) (g : Nat) (a b : Value) (v : Value)
    (hp : tmps.getD p undef = .pointer (some ⟨g, 0, none⟩)) (hv : tmps.getD u undef = v) (hg : w.heap[g]? = some (.cells (two a b) 25 (0, 0))) :
    (results fn tmps).run Try.prog w = .ok (.tuple #[.agg (two a b), v]) w := by
  subst hv
  rw [results_cell_tmp h tmps Try.prog w, hp]
  simp only [asAddr, Sem.run_pure, Result.andThen]
  rw [run_loadVar_row w g 25 25 (two a b) (0, 0) _ hg Try.underlying25 rfl sizeMI]

theorem two_set {w : World} {g : Nat} {a b a' b' : Value} {t : TypeId} (h : w.heap[g]? = some (.cells (two a b) t (0, 0))) : ((w.setCell ⟨g, 0, none⟩ a').setCell ⟨g, 1, none⟩ b').heap[g]? = some (.cells (two a' b') t (0, 0)) := by
  have h1 : (w.setCell ⟨g, 0, none⟩ a').heap[g]? = some (.cells (two a' b) t (0, 0)) := by rw [heap_setCell_same _ _ 0 _ _ _ h]; rfl
  rw [heap_setCell_same _ _ 1 _ _ _ h1]; rfl
theorem within_two (w : World) (g : Nat) (a b : Value) : Within g (g + 1) w ((w.setCell ⟨g, 0, none⟩ a).setCell ⟨g, 1, none⟩ b) :=
  (Within.of_grown (grown_setCell _ _ _ _) (fun k hk => by cases hk; omega)).trans (Within.of_grown (grown_setCell _ _ _ _) (fun k hk => by cases hk; omega))
/-- Both lists made behind the cell that takes them. -/
theorem turned_done {w w1 w2 w3 : World} {v1 v2 : Value} {us1 us2 : List Value} {xs ys : List (List Int)} (hB1 : Below w.heap.size w w1) (hlt : w.heap.size + 1 < w1.heap.size) (hb2 : Below w1.heap.size w1 w2) (hb3 : Below w2.heap.size w2 w3)
    (ho2 : OwnsRows w2 w1.heap.size w2.heap.size v1 us1 xs) (ho3 : OwnsRows w3 w2.heap.size w3.heap.size v2 us2 ys) (hres : w1.heap[w.heap.size + 1]? = some (.cells (two nilS nilS) 25 (0, 0))) :
    ((w3.setCell ⟨w.heap.size + 1, 0, none⟩ v1).setCell ⟨w.heap.size + 1, 1, none⟩ v2).heap[w.heap.size + 1]? = some (.cells (two v1 v2) 25 (0, 0)) ∧
      Below w.heap.size w ((w3.setCell ⟨w.heap.size + 1, 0, none⟩ v1).setCell ⟨w.heap.size + 1, 1, none⟩ v2) ∧
      OwnsMktX ((w3.setCell ⟨w.heap.size + 1, 0, none⟩ v1).setCell ⟨w.heap.size + 1, 1, none⟩ v2) w.heap.size ((w3.setCell ⟨w.heap.size + 1, 0, none⟩ v1).setCell ⟨w.heap.size + 1, 1, none⟩ v2).heap.size v1 v2 xs ys := by
  have hw := within_two w3 (w.heap.size + 1) v1 v2
  have hs2 := hb2.size
  have hs3 := hb3.size
  have hs4 := hw.size
  refine ⟨two_set (kept_obj hb3 (kept_obj hb2 hres)), Below.within (step_below (step_below hB1 hb2) hb3) hw (by omega), OwnsMkt.x ⟨w2.heap.size, us1, us2, by omega, by omega, ?_, ?_⟩⟩
  · exact ((ho2.below hb3).kept hw (.inr (by omega))).wide (by omega) (Nat.le_refl _)
  · exact (ho3.kept hw (.inr (by omega))).wide (Nat.le_refl _) (by omega)

theorem none_made (w1 : World) (g : Nat) (c : Array Value) (hlt : g < w1.heap.size) {lo : Nat} (hlo : lo ≤ w1.heap.size) :
    OwnsMktX (((w1.alloc (.cells #[] 26)).alloc (.cells #[] 26)).setRow g c) lo (((w1.alloc (.cells #[] 26)).alloc (.cells #[] 26)).setRow g c).heap.size (.slice (some ⟨w1.heap.size, 0, none⟩) 0 0) (.slice (some ⟨w1.heap.size + 1, 0, none⟩) 0 0) [] [] := by
  have o1 := World.ownsRow_made (base := w1.heap.size) (e := 26) (size := 1) w1 #[] 0 (Nat.le_refl _) (Nat.zero_le _) rfl
  have o2 := World.ownsRow_made (base := w1.heap.size + 1) (e := 26) (size := 1) (w1.alloc (.cells #[] 26)) #[] 0 (by simp) (Nat.zero_le _) rfl
  rw [World.size_alloc] at o2
  have hw : Within g (g + 1) ((w1.alloc (.cells #[] 26)).alloc (.cells #[] 26)) (((w1.alloc (.cells #[] 26)).alloc (.cells #[] 26)).setRow g c) :=
    ⟨rfl, rfl, rfl, by simp [World.setRow], fun k hk ho => by
      show (Array.modify _ g _)[k]? = _
      rw [Array.getElem?_modify, if_neg (by omega)]⟩
  have hs := hw.size
  have r1 := owns_rows_nil _ _ _ o1
  have r2 := owns_rows_nil _ _ _ o2
  rw [World.size_alloc] at r1 r2
  rw [World.size_alloc] at r2
  have hsz : w1.heap.size + 1 + 1 ≤ (((w1.alloc (.cells #[] 26)).alloc (.cells #[] 26)).setRow g c).heap.size := by simp [World.setRow]
  have r3 : OwnsRows ((w1.alloc (.cells #[] 26)).alloc (.cells #[] 26)) w1.heap.size (w1.heap.size + 1) (.slice (some ⟨w1.heap.size, 0, none⟩) 0 0) [] [] := by
    have := r1.below ((Below.refl _ (w1.alloc (.cells #[] 26))).alloc (Nat.le_refl _) (.cells #[] 26))
    exact this
  exact OwnsMkt.x ⟨w1.heap.size + 1, [], [], by omega, by omega, (r3.kept hw (.inr (by omega))).wide hlo (Nat.le_refl _), (r2.kept hw (.inr (by omega))).wide (Nat.le_refl _) hsz⟩


end Go.Proofs.Ytjbgjebbfkhidaa
