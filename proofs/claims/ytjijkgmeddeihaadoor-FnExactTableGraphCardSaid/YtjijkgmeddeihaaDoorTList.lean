/-
  (impl.table).list: a table told as a list of new rows.
-/
import Derived.Test.YtjijkgmeddeihaaDoorKCells
import Derived.Test.YtjijkgmeddeihaaDoorClone
import Derived.Test.YtjijkgmeddeihaaDoorRowsPush
import Derived.Test.YtjijkgmeddeihaaDoorOnce
import Derived.Test.YtjijkgmeddeihaaDoorKeptObj
import Derived.Deep.RegionHeld3
import Derived.Deep.RegionLaw
namespace Go.Proofs.YtjijkgmeddeihaaDoor
set_option linter.unusedVariables false
set_option linter.unusedSimpArgs false
open Go.RowKit

def rowOf (n : Nat) (F : Nat → Int) (r : Nat) : List Int := (List.range n).map fun c => F (6 * r + c)
def rowsOf (n : Nat) (F : Nat → Int) : List (List Int) := (List.range n).map (rowOf n F)
theorem rowOf_len (n : Nat) (F : Nat → Int) (r : Nat) : (rowOf n F r).length = n := by simp [rowOf]
theorem rowsOf_len (n : Nat) (F : Nat → Int) : (rowsOf n F).length = n := by simp [rowsOf]
theorem rowsOf_at (n : Nat) (F : Nat → Int) (r : Nat) (h : r < (rowsOf n F).length) : (rowsOf n F)[r] = rowOf n F r := by simp [rowsOf]
theorem row_slice {w : World} {b n : Nat} {e : TypeId} {v : Value} {xs : List Value} (h : w.ownsRow b e 1 v n xs) : ∃ A m c, v = .slice A m c := by
  rcases h.2 with ⟨h0, _⟩ | ⟨g, cap, cur, h0, _⟩
  · exact ⟨_, _, _, h0⟩
  · exact ⟨_, _, _, h0⟩
theorem rows_start (W : World) (B n : Nat) (xss : List (List Int)) (lo : Nat) (h : W.ownsRow lo 22 1 (.slice (some ⟨B, 0, none⟩) n n) n (List.replicate n (.slice none 0 0))) : RowsTo W lo B n [] xss :=
  ⟨by simp, by simpa using h, fun i hi => by simp at hi, fun i j _ hj => by simp at hj⟩

set_option maxRecDepth 100000 in
set_option maxHeartbeats 4000000 in
theorem tlist_any (n : Nat) (F : Nat → Int) (h1 : 1 ≤ n) (h6 : n ≤ 6) (w : World) :
    Calls Tryd.prog 24 #[.agg (tcells n F)] w fun e w' => ∃ v us, e = .returned v ∧ Below w.heap.size w w' ∧ OwnsRows w' w.heap.size w'.heap.size v us (rowsOf n F) := by
  have hmk := fun W => run_make_row' (P := Tryd.prog) 23 22 (.slice none 0 0) 24 Tryd.underlying23 infoRow rfl .i64 .i64 n (by omega) (by omega) W
  obtain ⟨W0, hW0⟩ : ∃ W0, w.alloc (.cells (tcells n F) 46) = W0 := ⟨_, rfl⟩
  have hb0 : Below w.heap.size w W0 := by rw [← hW0]; exact (Below.refl _ _).alloc (Nat.le_refl _) _
  have hbox : W0.heap[w.heap.size]? = some (.cells (tcells n F) 46 (0, 0)) := by rw [← hW0]; exact World.alloc_heap_new _ _
  have hsz0 : W0.heap.size = w.heap.size + 1 := by rw [← hW0]; simp
  obtain ⟨W1, hW1⟩ : ∃ W1, W0.alloc (.cells (madeCells #[.slice none 0 0] n) 22) = W1 := ⟨_, rfl⟩
  have hb1 : Below w.heap.size w W1 := by rw [← hW1]; exact hb0.alloc (by omega) _
  have hbox1 : W1.heap[w.heap.size]? = some (.cells (tcells n F) 46 (0, 0)) := by rw [← hW1]; exact (Below.heap_alloc _ _ _ (by omega)).trans hbox
  have hown : W1.ownsRow w.heap.size 22 1 (.slice (some ⟨w.heap.size + 1, 0, none⟩) n n) n (List.replicate n (.slice none 0 0)) := by
    rw [← hW1]
    have := World.ownsRow_lit (base := w.heap.size) (e := 22) (size := 1) W0 (madeCells #[.slice none 0 0] n) n (by omega) (by unfold maxLen; omega) (by simp [madeCells])
    rw [toList_madeCells_one, hsz0] at this
    exact this
  have HST := Lib.hid (And.intro hb1 (And.intro hbox1 (rows_start W1 (w.heap.size + 1) n (rowsOf n F) w.heap.size hown)))
  obtain ⟨x0, -, -, -⟩ := table_cells hbox
  have HSZ := Lib.hid hsz0
  clear hb0 hbox hb1 hbox1 hown
  go_enter Tryd.func24, Tryd.ntmps24
  go_wp2
  clear x0 hsz0
  go_loopw [4, 10] (fun _ i wr => ∃ us : List Value, us.length ≤ n ∧ i = .int .i64 us.length ∧ Below w.heap.size w wr ∧ wr.heap[w.heap.size]? = some (.cells (tcells n F) 46 (0, 0)) ∧ RowsTo wr w.heap.size (w.heap.size + 1) n us (rowsOf n F) ∧ w.heap.size + 1 < wr.heap.size) (fun _ i _ => n - (intOf i).toNat)
  case atStart => exact ⟨[], by simp, rfl, HST.out.1, HST.out.2.1, HST.out.2.2, (HST.out.2.2.outer.lt (w.heap.size + 1) rfl).2⟩
  case round =>
    obtain ⟨us, hk, rfl, hb, hbx, hrt, hsz⟩ := hrel
    by_cases hlt : us.length < n
    · obtain ⟨k, hkk⟩ : ∃ k, us.length = k := ⟨_, rfl⟩
      rw [hkk] at hlt ⊢
      obtain ⟨y0, ys, -, -⟩ := table_cells (w := wr.drew) hbx
      have hki : (k : Int) < (n : Int) := by omega
      have hk0 : (0 : Int) ≤ (k : Int) := by omega
      have hk6 : (k : Int) < 6 := by omega
      have hn6 : (n : Int) ≤ 6 := by omega
      have hn0 : (0 : Int) ≤ (n : Int) := by omega
      have hints : Ints wr.drew (.slice (some ⟨w.heap.size, 1 + k * 6, none⟩) (rowOf n F k).length 6) (rowOf n F k) := by
        refine ⟨some ⟨w.heap.size, 1 + k * 6, none⟩, 6, rfl, by rw [rowOf_len]; unfold maxLen; omega, fun i hi => ⟨w.heap.size, 1 + k * 6, rfl, ?_⟩⟩
        rw [rowOf_len] at hi
        have := ys (6 * k + i) (by omega)
        rw [show 1 + k * 6 + i = 1 + (6 * k + i) by omega, this]
        simp [rowOf]
      have hcl := clone_at wr.drew w.heap.size (1 + k * 6) 6 (rowOf n F k) hints (by rw [rowOf_len]; omega)
      rw [rowOf_len] at hcl
      have HCL := Lib.hid hcl
      have HRT := Lib.hid (And.intro hb (And.intro hbx (And.intro hrt (And.intro hsz hkk))))
      have HAFT := Lib.hid (fun (w3 : World) (hb3 : Below wr.drew.heap.size wr.drew w3) => show w3.frozen? ⟨w.heap.size + 1, k, none⟩ = false ∧ w3.cell? ⟨w.heap.size, 0, none⟩ = some (.int .i64 (n : Int)) ∧ ∃ v0, w3.cell? ⟨w.heap.size + 1, k, none⟩ = some v0 from by
        have hB3 := below_undrew hb3
        have ho3 := owns_below hrt.outer hB3
        refine ⟨ho3.frozenAt k, (table_cells (kept_obj hB3 hbx)).1, ?_⟩
        have hx := ho3.cellAt k (by omega)
        rw [hx, List.getElem?_eq_getElem (by rw [ho3.1]; omega)]
        exact ⟨_, rfl⟩)
      have HCES := Lib.hid (fun (w3 : World) (u : Value) (hb3 : Below wr.drew.heap.size wr.drew w3) => show (w3.setCell ⟨w.heap.size + 1, k, none⟩ u).cell? ⟨w.heap.size, 0, none⟩ = some (.int .i64 (n : Int)) from by
        have hB3 := below_undrew hb3
        have : (w3.setCell ⟨w.heap.size + 1, k, none⟩ u).heap[w.heap.size]? = some (.cells (tcells n F) 46 (0, 0)) := by
          rw [heap_setCell_other _ _ _ _ (by show w.heap.size ≠ w.heap.size + 1; omega)]
          exact kept_obj hB3 hbx
        exact (table_cells this).1)
      have HEND := Lib.hid (fun (w3 : World) (u : Value) (hb3 : Below wr.drew.heap.size wr.drew w3) (hu : Owns w3 wr.drew.heap.size u (rowOf n F k)) => show Below w.heap.size w (w3.setCell ⟨w.heap.size + 1, k, none⟩ u) ∧ (w3.setCell ⟨w.heap.size + 1, k, none⟩ u).heap[w.heap.size]? = some (.cells (tcells n F) 46 (0, 0)) ∧ RowsTo (w3.setCell ⟨w.heap.size + 1, k, none⟩ u) w.heap.size (w.heap.size + 1) n (us ++ [u]) (rowsOf n F) ∧ w.heap.size + 1 < (w3.setCell ⟨w.heap.size + 1, k, none⟩ u).heap.size from by
        have hB3 := below_undrew hb3
        refine ⟨(step_below hb hB3).setCell (p := ⟨w.heap.size + 1, k, none⟩) (by show w.heap.size ≤ w.heap.size + 1; omega) _, ?_, ?_, ?_⟩
        · rw [heap_setCell_other _ _ _ _ (by show w.heap.size ≠ w.heap.size + 1; omega)]
          exact kept_obj hB3 hbx
        · have := hrt.push (u := u) (by rw [rowsOf_len]; omega) (by rw [rowsOf_len]) hB3 hsz (by rw [rowsOf_at, hkk]; exact hu)
          rw [hkk] at this
          exact this
        · have := hB3.size
          simp [World.setCell]
          omega)
      clear hb hbx hrt hsz ys hints hcl
      go_wp2
      apply once_slice (fun (u : Value) (w' : World) => Below w.heap.size w w' ∧ w'.heap[w.heap.size]? = some (.cells (tcells n F) 46 (0, 0)) ∧ RowsTo w' w.heap.size (w.heap.size + 1) n (us ++ [u]) (rowsOf n F) ∧ w.heap.size + 1 < w'.heap.size)
      case h1 =>
        go_region_held3 (fun w' => w'.cell? ⟨w.heap.size, 0, none⟩ = some (.int .i64 (n : Int)))
          (first | exact y0 | exact (HAFT.out w3 hb3).2.1 | exact HCES.out w3 _ hb3)
          (first | (go_at_call 38; refine HCL.out.mono ?_; rintro e w3 ⟨u, rfl, hb3, hu3⟩; obtain ⟨A3, m3, c3, rfl⟩ := row_slice hu3; obtain ⟨hf3, hc3, v0, hv0⟩ := HAFT.out w3 hb3))
        all_goals exact ⟨_, _, _, HEND.out w3 _ hb3 hu3, rfl⟩
      rintro A4 m4 c4 w3 hst3
      have HS3 := Lib.hid hst3
      have HKK := Lib.hid hkk
      clear hst3 y0 hkk
      go_wp2
      go_roundw
      case rel => exact ⟨us ++ [_], by simp; have := HKK.out; omega, by simp [HKK.out], HS3.out⟩
      case measure => simp [intOf]; omega
    · have hkk : us.length = n := by omega
      have HD := Lib.hid (And.intro hb (hrt.done (by rw [rowsOf_len]) (by rw [rowsOf_len]; exact hkk) (by omega)))
      rw [hkk]
      clear hb hbx hrt hkk
      go_wp2
      go_ret
      exact ⟨_, us, rfl, HD.out.1, HD.out.2⟩

end Go.Proofs.YtjijkgmeddeihaaDoor
