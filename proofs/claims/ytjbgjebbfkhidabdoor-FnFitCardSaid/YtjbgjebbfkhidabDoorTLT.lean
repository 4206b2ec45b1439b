/-
  TLT: Turn TList.
-/
import Derived.Test.YtjbgjebbfkhidabDoorKCells
import Derived.Test.YtjbgjebbfkhidabDoorCore1
import Derived.Deep.QuietTactic
import Derived.BigQuiet
import Derived.Deep.RegionLaw
import Derived.Deep.RegionWith
import Derived.Outline
import Derived.Test.YtjbgjebbfkhidabDoorRnk
import Derived.Deep.RegionHeld3
/-
  (impl.cells).transposed, negated, diagonal.
-/
namespace Go.Proofs.YtjbgjebbfkhidabDoor
set_option linter.unusedVariables false
set_option linter.unusedSimpArgs false
open Go.RowKit

def trF (F : Nat → Int) : Nat → Int := fun i => F (6 * (i % 6) + i / 6)
def trTo (F : Nat → Int) (r q : Nat) : Nat → Int := fun i => if i % 6 < r ∨ (i % 6 = r ∧ i / 6 < q) then trF F i else 0
theorem trTo_step (F : Nat → Int) {r q : Nat} (hr : r < 6) : updI (trTo F r q) (6 * q + r) (F (6 * r + q)) = trTo F r (q + 1) := by
  funext i
  unfold updI trTo
  by_cases h : i = 6 * q + r
  · subst h
    rw [if_pos rfl, if_pos (by right; omega)]
    unfold trF
    congr 1; omega
  · rw [if_neg h]
    have : (i % 6 < r ∨ (i % 6 = r ∧ i / 6 < q)) ↔ (i % 6 < r ∨ (i % 6 = r ∧ i / 6 < q + 1)) := by omega
    simp only [this]
theorem trTo_row (F : Nat → Int) (r : Nat) : kcells (trTo F r 6) = kcells (trTo F (r + 1) 0) := kcells_congr fun i hi => by
  unfold trTo
  have : (i % 6 < r ∨ (i % 6 = r ∧ i / 6 < 6)) ↔ (i % 6 < r + 1 ∨ (i % 6 = r + 1 ∧ i / 6 < 0)) := by omega
  simp only [this]
theorem trTo_zero (F : Nat → Int) : trTo F 0 0 = fun _ => 0 := by
  funext i; unfold trTo; rw [if_neg (by omega)]
theorem trTo_full (F : Nat → Int) : trTo F 6 0 = trF F := by
  funext i; unfold trTo; rw [if_pos (by left; omega)]

/-- What stands while a table is turned. -/
def TurnT (w wr : World) (F : Nat → Int) (r q : Nat) : Prop :=
  Below w.heap.size w wr ∧ wr.heap[w.heap.size]? = some (.cells (kcells F) 55 (0, 0)) ∧ wr.heap[w.heap.size + 1]? = some (.cells (kcells fun _ => 0) 55 (0, 0)) ∧ wr.heap[w.heap.size + 1 + 1]? = some (.cells (kcells (trTo F r q)) 55 (0, 0))

theorem TurnT.step {w wr : World} {F : Nat → Int} {r q : Nat} (h : TurnT w wr F r q) (hr : r < 6) (hq : q < 6) : TurnT w ((wr.setCell ⟨w.heap.size + 1 + 1, q * 6 + r, none⟩ (.int .i64 (F (r * 6 + q)))).drew) F r (q + 1) := by
  obtain ⟨h1, h2, h3, h4⟩ := h
  have e1 : r * 6 + q = 6 * r + q := by omega
  have e2 : q * 6 + r = 6 * q + r := by omega
  rw [e1, e2]
  refine ⟨(h1.setCell (p := ⟨w.heap.size + 1 + 1, 6 * q + r, none⟩) (by show w.heap.size ≤ w.heap.size + 1 + 1; omega) _).drew, (Below.heap_setCell _ _ _ _ (by show w.heap.size ≠ w.heap.size + 1 + 1; omega)).trans h2, (Below.heap_setCell _ _ _ _ (by show w.heap.size + 1 ≠ w.heap.size + 1 + 1; omega)).trans h3, ?_⟩
  rw [← trTo_step F hr]
  exact cells_stored (6 * q + r) _ (by omega) h4

set_option maxRecDepth 100000 in
set_option maxHeartbeats 2000000 in
theorem transposed_any (F : Nat → Int) (w : World) :
    Calls Tryd.prog 79 #[.agg (kcells F)] w fun e w' => e = .returned (.agg (kcells (trF F))) ∧ Below w.heap.size w w' := by
  go_enter Tryd.func79, Tryd.ntmps79
  go_wp2_with (first
    | (refine alloc_cells rfl rfl ?_))
  obtain ⟨W, hW⟩ : ∃ W, ((w.alloc (.cells (kcells F) 55)).alloc (.cells (kcells fun _ => 0) 55)).alloc (.cells (kcells fun _ => 0) 55) = W := ⟨_, rfl⟩
  have hT : TurnT w W F 0 0 := by
    rw [← hW]
    refine ⟨(((Below.refl _ _).alloc (Nat.le_refl _) _).alloc (by simp) _).alloc (by simp; omega) _, ?_, ?_, ?_⟩
    · rw [Below.heap_alloc _ _ _ (by simp; omega)]; exact heap_alloc2_old _ _ _
    · rw [Below.heap_alloc _ _ _ (by simp)]; exact heap_alloc2_new _ _ _
    · rw [trTo_zero]
      have := World.alloc_heap_new ((w.alloc (.cells (kcells F) 55)).alloc (.cells (kcells fun _ => 0) 55)) (.cells (kcells fun _ => 0) 55)
      rwa [World.size_alloc, World.size_alloc] at this
  rw [hW]
  clear hW
  go_loopw [4, 5, 6, 9] (fun _ _ i _ wr => ∃ r : Nat, r ≤ 6 ∧ i = .int .i64 r ∧ TurnT w wr F r 0) (fun _ _ i _ _ => 6 - (intOf i).toNat)
  case atStart => exact ⟨0, by omega, rfl, hT⟩
  case round =>
    clear hT
    obtain ⟨r, hr, rfl, hT⟩ := hrel
    by_cases hlt : r < 6
    · have hri : (r : Int) < 6 := by omega
      go_wp2
      go_loopw [5, 9] (fun _ i wr => ∃ q : Nat, q ≤ 6 ∧ i = .int .i64 q ∧ TurnT w wr F r q) (fun _ i _ => 6 - (intOf i).toNat)
      case atStart => exact ⟨0, by omega, rfl, hT⟩
      case round =>
        rename_i wx
        clear hT
        obtain ⟨q, hq, rfl, h1, h2, h3, h4⟩ := hrel
        by_cases hql : q < 6
        · have hqi : (q : Int) < 6 := by omega
          have hr0 : (0 : Int) ≤ (r : Int) := by omega
          have hq0 : (0 : Int) ≤ (q : Int) := by omega
          obtain ⟨cs, _, _⟩ := cells_cells h2
          obtain ⟨ms, mf, _⟩ := cells_cells h4
          have cc := cs (6 * r + q) (by omega)
          have mc := ms (6 * q + r) (by omega)
          have mz := mf (6 * q + r)
          have e1 : 6 * r + q = r * 6 + q := by omega
          have e2 : 6 * q + r = q * 6 + r := by omega
          have hst := trTo_step F (r := r) (q := q) hlt
          rw [e1] at cc
          rw [e2] at mc mz
          rw [e1, e2] at hst
          obtain ⟨x, hx⟩ : ∃ x, F (r * 6 + q) = x := ⟨_, rfl⟩
          rw [hx] at cc hst
          have HX := Lib.hid hx
          have H1 := Lib.hid (show TurnT w wr F r q from ⟨h1, h2, h3, h4⟩)
          clear hx hst cs ms mf h1 h2 h3 h4 e1 e2
          go_wp2
          first | go_quiet (fail) | go_region_law (fail) | go_region_with (fail)
          all_goals go_wp2
          all_goals go_roundw
          all_goals first
            | (refine ⟨q + 1, by omega, by go_num, ?_⟩; have := H1.out.step hlt hql; rw [HX.out] at this; exact this)
            | (simp [intOf]; omega)
        · obtain rfl : q = 6 := by omega
          rw [trTo_row] at h4
          have H1 := Lib.hid (show TurnT w wr F (r + 1) 0 from ⟨h1, h2, h3, h4⟩)
          clear h1 h2 h3 h4
          go_wp2
          go_roundw
          all_goals first
            | exact ⟨r + 1, by omega, by go_num, H1.out⟩
            | (simp [intOf]; omega)
    · obtain rfl : r = 6 := by omega
      obtain ⟨h1, h2, h3, h4⟩ := hT
      rw [trTo_full] at h4
      have H3 := Lib.hid h3
      have H4 := Lib.hid h4
      clear h2 h3 h4
      go_wp2_with (first
        | (refine load_cells rfl _ rfl _ (trF F) rfl H4.out ?_)
        | (refine store_cells rfl _ _ rfl (w.heap.size + 1) (trF F) rfl rfl (fun _ => 0) H3.out ?_))
      refine bodyPost_ret (v := .agg (kcells (trF F))) (ret_cells rfl _ _ (w.heap.size + 1) (trF F) rfl (heap_setRowT H3.out)) rfl ⟨rfl, below_setRowT h1 (by omega) _⟩

end Go.Proofs.YtjbgjebbfkhidabDoor

/-
  (impl.table).list: a table told as a list of new rows.
-/
namespace Go.Proofs.YtjbgjebbfkhidabDoor
set_option linter.unusedVariables false
set_option linter.unusedSimpArgs false
open Go.RowKit

def rowOf (n : Nat) (F : Nat → Int) (r : Nat) : List Int := (List.range n).map fun c => F (6 * r + c)
def rowsOf (n : Nat) (F : Nat → Int) : List (List Int) := (List.range n).map (rowOf n F)
theorem rowOf_len (n : Nat) (F : Nat → Int) (r : Nat) : (rowOf n F r).length = n := by simp [rowOf]
theorem rowsOf_len (n : Nat) (F : Nat → Int) : (rowsOf n F).length = n := by simp [rowsOf]
theorem rowsOf_at (n : Nat) (F : Nat → Int) (r : Nat) (h : r < (rowsOf n F).length) : (rowsOf n F)[r] = rowOf n F r := by simp [rowsOf]
theorem row_slice {w : World} {b n : Nat} {e : TypeId} {v : Value} {xs : List Value} (h : w.ownsRow b e 1 v n xs) : ∃ A m c, v = .slice A m c := by
  rcases h.2 with ⟨h0, _⟩ | ⟨g, cap, cur, h0, _⟩
  · exact ⟨_, _, _, h0⟩
  · exact ⟨_, _, _, h0⟩
theorem rows_start (W : World) (B n : Nat) (xss : List (List Int)) (lo : Nat) (h : W.ownsRow lo 24 1 (.slice (some ⟨B, 0, none⟩) n n) n (List.replicate n (.slice none 0 0))) : RowsTo W lo B n [] xss :=
  ⟨by simp, by simpa using h, fun i hi => by simp at hi, fun i j _ hj => by simp at hj⟩

set_option maxRecDepth 100000 in
set_option maxHeartbeats 4000000 in
theorem tlist_any (n : Nat) (F : Nat → Int) (h1 : 1 ≤ n) (h6 : n ≤ 6) (w : World) :
    Calls Tryd.prog 80 #[.agg (tcells n F)] w fun e w' => ∃ v us, e = .returned v ∧ Below w.heap.size w w' ∧ OwnsRows w' w.heap.size w'.heap.size v us (rowsOf n F) := by
  have hmk := fun W => run_make_row' (P := Tryd.prog) 22 24 (.slice none 0 0) 24 Tryd.underlying22 infoRow rfl .i64 .i64 n (by omega) (by omega) W
  obtain ⟨W0, hW0⟩ : ∃ W0, w.alloc (.cells (tcells n F) 57) = W0 := ⟨_, rfl⟩
  have hb0 : Below w.heap.size w W0 := by rw [← hW0]; exact (Below.refl _ _).alloc (Nat.le_refl _) _
  have hbox : W0.heap[w.heap.size]? = some (.cells (tcells n F) 57 (0, 0)) := by rw [← hW0]; exact World.alloc_heap_new _ _
  have hsz0 : W0.heap.size = w.heap.size + 1 := by rw [← hW0]; simp
  obtain ⟨W1, hW1⟩ : ∃ W1, W0.alloc (.cells (madeCells #[.slice none 0 0] n) 24) = W1 := ⟨_, rfl⟩
  have hb1 : Below w.heap.size w W1 := by rw [← hW1]; exact hb0.alloc (by omega) _
  have hbox1 : W1.heap[w.heap.size]? = some (.cells (tcells n F) 57 (0, 0)) := by rw [← hW1]; exact (Below.heap_alloc _ _ _ (by omega)).trans hbox
  have hown : W1.ownsRow w.heap.size 24 1 (.slice (some ⟨w.heap.size + 1, 0, none⟩) n n) n (List.replicate n (.slice none 0 0)) := by
    rw [← hW1]
    have := World.ownsRow_lit (base := w.heap.size) (e := 24) (size := 1) W0 (madeCells #[.slice none 0 0] n) n (by omega) (by unfold maxLen; omega) (by simp [madeCells])
    rw [toList_madeCells_one, hsz0] at this
    exact this
  have HST := Lib.hid (And.intro hb1 (And.intro hbox1 (rows_start W1 (w.heap.size + 1) n (rowsOf n F) w.heap.size hown)))
  obtain ⟨x0, -, -, -⟩ := table_cells hbox
  have HSZ := Lib.hid hsz0
  clear hb0 hbox hb1 hbox1 hown
  go_enter Tryd.func80, Tryd.ntmps80
  go_wp2
  clear x0 hsz0
  go_loopw [4, 10] (fun _ i wr => ∃ us : List Value, us.length ≤ n ∧ i = .int .i64 us.length ∧ Below w.heap.size w wr ∧ wr.heap[w.heap.size]? = some (.cells (tcells n F) 57 (0, 0)) ∧ RowsTo wr w.heap.size (w.heap.size + 1) n us (rowsOf n F) ∧ w.heap.size + 1 < wr.heap.size) (fun _ i _ => n - (intOf i).toNat)
  case atStart => exact ⟨[], by simp, rfl, HST.out.1, HST.out.2.1, HST.out.2.2, (HST.out.2.2.outer.lt (w.heap.size + 1) rfl).2⟩
  case round =>
    obtain ⟨us, hk, rfl, hb, hbx, hrt, hsz⟩ := hrel
    by_cases hlt : us.length < n
    · obtain ⟨k, hkk⟩ : ∃ k, us.length = k := ⟨_, rfl⟩
      rw [hkk] at hlt ⊢
      obtain ⟨y0, ys, -, -⟩ := table_cells (w := wr.drew) hbx
      have hki : (k : Int) < (n : Int) := by omega
      have hk0 : (0 : Int) ≤ (k : Int) := by omega
      have hk6 : (k : Int) < 6 := by omega
      have hn6 : (n : Int) ≤ 6 := by omega
      have hn0 : (0 : Int) ≤ (n : Int) := by omega
      have hints : Ints wr.drew (.slice (some ⟨w.heap.size, 1 + k * 6, none⟩) (rowOf n F k).length 6) (rowOf n F k) := by
        refine ⟨some ⟨w.heap.size, 1 + k * 6, none⟩, 6, rfl, by rw [rowOf_len]; unfold maxLen; omega, fun i hi => ⟨w.heap.size, 1 + k * 6, rfl, ?_⟩⟩
        rw [rowOf_len] at hi
        have := ys (6 * k + i) (by omega)
        rw [show 1 + k * 6 + i = 1 + (6 * k + i) by omega, this]
        simp [rowOf]
      have hcl := clone_at wr.drew w.heap.size (1 + k * 6) 6 (rowOf n F k) hints (by rw [rowOf_len]; omega)
      rw [rowOf_len] at hcl
      have HCL := Lib.hid hcl
      have HRT := Lib.hid (And.intro hb (And.intro hbx (And.intro hrt (And.intro hsz hkk))))
      have HAFT := Lib.hid (fun (w3 : World) (hb3 : Below wr.drew.heap.size wr.drew w3) => show w3.frozen? ⟨w.heap.size + 1, k, none⟩ = false ∧ w3.cell? ⟨w.heap.size, 0, none⟩ = some (.int .i64 (n : Int)) ∧ ∃ v0, w3.cell? ⟨w.heap.size + 1, k, none⟩ = some v0 from by
        have hB3 := below_undrew hb3
        have ho3 := owns_below hrt.outer hB3
        refine ⟨ho3.frozenAt k, (table_cells (kept_obj hB3 hbx)).1, ?_⟩
        have hx := ho3.cellAt k (by omega)
        rw [hx, List.getElem?_eq_getElem (by rw [ho3.1]; omega)]
        exact ⟨_, rfl⟩)
      have HCES := Lib.hid (fun (w3 : World) (u : Value) (hb3 : Below wr.drew.heap.size wr.drew w3) => show (w3.setCell ⟨w.heap.size + 1, k, none⟩ u).cell? ⟨w.heap.size, 0, none⟩ = some (.int .i64 (n : Int)) from by
        have hB3 := below_undrew hb3
        have : (w3.setCell ⟨w.heap.size + 1, k, none⟩ u).heap[w.heap.size]? = some (.cells (tcells n F) 57 (0, 0)) := by
          rw [heap_setCell_other _ _ _ _ (by show w.heap.size ≠ w.heap.size + 1; omega)]
          exact kept_obj hB3 hbx
        exact (table_cells this).1)
      have HEND := Lib.hid (fun (w3 : World) (u : Value) (hb3 : Below wr.drew.heap.size wr.drew w3) (hu : Owns w3 wr.drew.heap.size u (rowOf n F k)) => show Below w.heap.size w (w3.setCell ⟨w.heap.size + 1, k, none⟩ u) ∧ (w3.setCell ⟨w.heap.size + 1, k, none⟩ u).heap[w.heap.size]? = some (.cells (tcells n F) 57 (0, 0)) ∧ RowsTo (w3.setCell ⟨w.heap.size + 1, k, none⟩ u) w.heap.size (w.heap.size + 1) n (us ++ [u]) (rowsOf n F) ∧ w.heap.size + 1 < (w3.setCell ⟨w.heap.size + 1, k, none⟩ u).heap.size from by
        have hB3 := below_undrew hb3
        refine ⟨(step_below hb hB3).setCell (p := ⟨w.heap.size + 1, k, none⟩) (by show w.heap.size ≤ w.heap.size + 1; omega) _, ?_, ?_, ?_⟩
        · rw [heap_setCell_other _ _ _ _ (by show w.heap.size ≠ w.heap.size + 1; omega)]
          exact kept_obj hB3 hbx
        · have := hrt.push (u := u) (by rw [rowsOf_len]; omega) (by rw [rowsOf_len]) hB3 hsz (by rw [rowsOf_at, hkk]; exact hu)
          rw [hkk] at this
          exact this
        · have := hB3.size
          simp [World.setCell]
          omega)
      clear hb hbx hrt hsz ys hints hcl
      go_wp2
      apply once_slice (fun (u : Value) (w' : World) => Below w.heap.size w w' ∧ w'.heap[w.heap.size]? = some (.cells (tcells n F) 57 (0, 0)) ∧ RowsTo w' w.heap.size (w.heap.size + 1) n (us ++ [u]) (rowsOf n F) ∧ w.heap.size + 1 < w'.heap.size)
      case h1 =>
        go_region_held3 (fun w' => w'.cell? ⟨w.heap.size, 0, none⟩ = some (.int .i64 (n : Int)))
          (first | exact y0 | exact (HAFT.out w3 hb3).2.1 | exact HCES.out w3 _ hb3)
          (first | (go_at_call 103; refine HCL.out.mono ?_; rintro e w3 ⟨u, rfl, hb3, hu3⟩; obtain ⟨A3, m3, c3, rfl⟩ := row_slice hu3; obtain ⟨hf3, hc3, v0, hv0⟩ := HAFT.out w3 hb3))
        all_goals exact ⟨_, _, _, HEND.out w3 _ hb3 hu3, rfl⟩
      rintro A4 m4 c4 w3 hst3
      have HS3 := Lib.hid hst3
      have HKK := Lib.hid hkk
      clear hst3 y0 hkk
      go_wp2
      go_roundw
      case rel => exact ⟨us ++ [_], by simp; have := HKK.out; omega, by simp [HKK.out], HS3.out⟩
      case measure => simp [intOf]; omega
    · have hkk : us.length = n := by omega
      have HD := Lib.hid (And.intro hb (hrt.done (by rw [rowsOf_len]) (by rw [rowsOf_len]; exact hkk) (by omega)))
      rw [hkk]
      clear hb hbx hrt hkk
      go_wp2
      go_ret
      exact ⟨_, us, rfl, HD.out.1, HD.out.2⟩

end Go.Proofs.YtjbgjebbfkhidabDoor

