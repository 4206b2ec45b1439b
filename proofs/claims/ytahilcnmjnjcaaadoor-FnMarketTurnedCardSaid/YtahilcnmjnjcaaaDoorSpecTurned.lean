/-
  spec.MarketTurned.
-/
import Derived.Test.YtahilcnmjnjcaaaDoorCopies
import Derived.Test.YtahilcnmjnjcaaaDoorMktL
namespace Go.Proofs.YtahilcnmjnjcaaaDoor
set_option linter.unusedVariables false
set_option linter.unusedSimpArgs false
open Go.RowKit

def turnedL (ls rs : List (List Int)) : List (List Int) := if mktOk ls rs = true then rs else []
def turnedR (ls rs : List (List Int)) : List (List Int) := if mktOk ls rs = true then ls else []
theorem turned_no {ls rs : List (List Int)} (h : mktOk ls rs = false) : turnedL ls rs = [] ∧ turnedR ls rs = [] := by unfold turnedL turnedR; rw [h]; exact ⟨rfl, rfl⟩
theorem turned_yes {ls rs : List (List Int)} (h : mktOk ls rs = true) : turnedL ls rs = rs ∧ turnedR ls rs = ls := ⟨if_pos h, if_pos h⟩
theorem mkt_rows {ls rs : List (List Int)} (h : mktOk ls rs = true) : (∀ i (hi : i < ls.length), ls[i].length = ls.length) ∧ (∀ i (hi : i < rs.length), rs[i].length = ls.length) := by
  obtain ⟨⟨h1, h5, hl⟩, hs1, hs2⟩ := mktOk_parts h
  refine ⟨fun i hi => (rank_parts (List.all_eq_true.1 hs1 ls[i] (List.getElem_mem _))).1, fun i hi => ?_⟩
  have := (rank_parts (List.all_eq_true.1 hs2 rs[i] (List.getElem_mem _))).1
  omega
theorem total_le (n : Nat) : ∀ (xss : List (List Int)), (∀ i (hi : i < xss.length), xss[i].length = n) → total xss = xss.length * n
  | [], _ => by simp [total]
  | x :: t, h => by
    have h0 := h 0 (by simp)
    have ht := total_le n t (fun i hi => by have := h (i + 1) (by simp; omega); simpa using this)
    simp [total] at ht h0 ⊢
    rw [ht, h0, Nat.add_mul]
    omega
theorem turned_fits (ls rs : List (List Int)) : FitsM (turnedL ls rs) (turnedR ls rs) := by
  unfold FitsM
  cases h : mktOk ls rs with
  | false => rw [(turned_no h).1, (turned_no h).2]; simp [total]
  | true =>
    obtain ⟨⟨h1, h5, hl⟩, _⟩ := mktOk_parts h
    obtain ⟨q1, q2⟩ := mkt_rows h
    rw [(turned_yes h).1, (turned_yes h).2, total_le _ _ q1, total_le _ _ q2]
    have : ls.length * ls.length ≤ 5 * 5 := Nat.mul_le_mul h5 h5
    rw [hl]
    omega
theorem ret_mi2 {fn : Func} {p u : Tmp} (h : fn.results = #[.cell p 28, .tmp u]) (tmps : Array Value) (w : World) (g : Nat) (a b : Value) (v : Value)
    (hp : tmps.getD p undef = .pointer (some ⟨g, 0, none⟩)) (hv : tmps.getD u undef = v) (hg : w.heap[g]? = some (.cells (two a b) 28 (0, 0))) :
    (results fn tmps).run Tryd.prog w = .ok (.tuple #[.agg (two a b), v]) w := by
  subst hv
  rw [results_cell_tmp h tmps Tryd.prog w, hp]
  simp only [asAddr, Sem.run_pure, Result.andThen]
  rw [run_loadVar_row w g 28 28 (two a b) (0, 0) _ hg Tryd.underlying28 rfl sizeMI]

theorem two_set {w : World} {g : Nat} {a b a' b' : Value} {t : TypeId} (h : w.heap[g]? = some (.cells (two a b) t (0, 0))) : ((w.setCell ⟨g, 0, none⟩ a').setCell ⟨g, 1, none⟩ b').heap[g]? = some (.cells (two a' b') t (0, 0)) := by
  have h1 : (w.setCell ⟨g, 0, none⟩ a').heap[g]? = some (.cells (two a' b) t (0, 0)) := by rw [heap_setCell_same _ _ 0 _ _ _ h]; rfl
  rw [heap_setCell_same _ _ 1 _ _ _ h1]; rfl
theorem within_two (w : World) (g : Nat) (a b : Value) : Within g (g + 1) w ((w.setCell ⟨g, 0, none⟩ a).setCell ⟨g, 1, none⟩ b) :=
  (Within.of_grown (grown_setCell _ _ _ _) (fun k hk => by cases hk; omega)).trans (Within.of_grown (grown_setCell _ _ _ _) (fun k hk => by cases hk; omega))
/-- Both lists made behind the cell that takes them. -/
theorem turned_done {w w1 w2 w3 : World} {v1 v2 : Value} {us1 us2 : List Value} {xs ys : List (List Int)} (hB1 : Below w.heap.size w w1) (hlt : w.heap.size + 1 < w1.heap.size) (hb2 : Below w1.heap.size w1 w2) (hb3 : Below w2.heap.size w2 w3)
    (ho2 : OwnsRows w2 w1.heap.size w2.heap.size v1 us1 xs) (ho3 : OwnsRows w3 w2.heap.size w3.heap.size v2 us2 ys) (hres : w1.heap[w.heap.size + 1]? = some (.cells (two nilS nilS) 28 (0, 0))) :
    ((w3.setCell ⟨w.heap.size + 1, 0, none⟩ v1).setCell ⟨w.heap.size + 1, 1, none⟩ v2).heap[w.heap.size + 1]? = some (.cells (two v1 v2) 28 (0, 0)) ∧
      Below w.heap.size w ((w3.setCell ⟨w.heap.size + 1, 0, none⟩ v1).setCell ⟨w.heap.size + 1, 1, none⟩ v2) ∧
      OwnsMktX ((w3.setCell ⟨w.heap.size + 1, 0, none⟩ v1).setCell ⟨w.heap.size + 1, 1, none⟩ v2) w.heap.size ((w3.setCell ⟨w.heap.size + 1, 0, none⟩ v1).setCell ⟨w.heap.size + 1, 1, none⟩ v2).heap.size v1 v2 xs ys := by
  have hw := within_two w3 (w.heap.size + 1) v1 v2
  have hs2 := hb2.size
  have hs3 := hb3.size
  have hs4 := hw.size
  refine ⟨two_set (kept_obj hb3 (kept_obj hb2 hres)), Below.within (step_below (step_below hB1 hb2) hb3) hw (by omega), OwnsMkt.x ⟨w2.heap.size, us1, us2, by omega, by omega, ?_, ?_⟩⟩
  · exact ((ho2.below hb3).kept hw (.inr (by omega))).wide (by omega) (Nat.le_refl _)
  · exact (ho3.kept hw (.inr (by omega))).wide (Nat.le_refl _) (by omega)

theorem none_made (w1 : World) (g : Nat) (c : Array Value) (hlt : g < w1.heap.size) {lo : Nat} (hlo : lo ≤ w1.heap.size) :
    OwnsMktX (((w1.alloc (.cells #[] 39)).alloc (.cells #[] 39)).setRow g c) lo (((w1.alloc (.cells #[] 39)).alloc (.cells #[] 39)).setRow g c).heap.size (.slice (some ⟨w1.heap.size, 0, none⟩) 0 0) (.slice (some ⟨w1.heap.size + 1, 0, none⟩) 0 0) [] [] := by
  have o1 := World.ownsRow_made (base := w1.heap.size) (e := 39) (size := 1) w1 #[] 0 (Nat.le_refl _) (Nat.zero_le _) rfl
  have o2 := World.ownsRow_made (base := w1.heap.size + 1) (e := 39) (size := 1) (w1.alloc (.cells #[] 39)) #[] 0 (by simp) (Nat.zero_le _) rfl
  rw [World.size_alloc] at o2
  have hw : Within g (g + 1) ((w1.alloc (.cells #[] 39)).alloc (.cells #[] 39)) (((w1.alloc (.cells #[] 39)).alloc (.cells #[] 39)).setRow g c) :=
    ⟨rfl, rfl, rfl, by simp [World.setRow], fun k hk ho => by
      show (Array.modify _ g _)[k]? = _
      rw [Array.getElem?_modify, if_neg (by omega)]⟩
  have hs := hw.size
  have r1 := owns_rows_nil _ _ _ o1
  have r2 := owns_rows_nil _ _ _ o2
  rw [World.size_alloc] at r1 r2
  rw [World.size_alloc] at r2
  have hsz : w1.heap.size + 1 + 1 ≤ (((w1.alloc (.cells #[] 39)).alloc (.cells #[] 39)).setRow g c).heap.size := by simp [World.setRow]
  have r3 : OwnsRows ((w1.alloc (.cells #[] 39)).alloc (.cells #[] 39)) w1.heap.size (w1.heap.size + 1) (.slice (some ⟨w1.heap.size, 0, none⟩) 0 0) [] [] := by
    have := r1.below ((Below.refl _ (w1.alloc (.cells #[] 39))).alloc (Nat.le_refl _) (.cells #[] 39))
    exact this
  exact OwnsMkt.x ⟨w1.heap.size + 1, [], [], by omega, by omega, (r3.kept hw (.inr (by omega))).wide hlo (Nat.le_refl _), (r2.kept hw (.inr (by omega))).wide (Nat.le_refl _) hsz⟩

set_option maxRecDepth 100000 in
set_option maxHeartbeats 4000000 in
theorem specTurned_any (w : World) (L R : Value) (ls rs : List (List Int)) (hL : IntRows w L ls) (hR : IntRows w R rs) :
    Calls Tryd.prog 29 #[.agg (two L R)] w (GivesMkt2 w (mktOk ls rs) (turnedL ls rs) (turnedR ls rs)) := by
  obtain ⟨W0, hW0⟩ : ∃ W0, (w.alloc (.cells (two L R) 28)).alloc (.cells (two nilS nilS) 28) = W0 := ⟨_, rfl⟩
  have hb0 : Below w.heap.size w W0 := by rw [← hW0]; exact ((Below.refl _ _).alloc (Nat.le_refl _) _).alloc (by simp) _
  have hbox : W0.heap[w.heap.size]? = some (.cells (two L R) 28 (0, 0)) := by rw [← hW0]; exact heap_two_old _ _ _
  have hres : W0.heap[w.heap.size + 1]? = some (.cells (two nilS nilS) 28 (0, 0)) := by rw [← hW0]; exact heap_two_new _ _ _
  have HSI := Lib.hid (specMIn_any W0 L R ls rs (hL.below hb0) (hR.below hb0))
  have HB0 := Lib.hid hb0
  have HLR := Lib.hid (And.intro hL hR)
  clear hL hR hb0
  cases hok : mktOk ls rs with
  | false =>
    have HEQ := Lib.hid (turned_no hok)
    rw [hok] at HSI
    clear hok
    go_enter Tryd.func29, Tryd.ntmps29
    go_wp2_with (refine load_mi rfl _ rfl w.heap.size L R rfl hbox ?_)
    clear hW0
    refine HSI.out.mono ?_
    rintro e w1 ⟨rfl, hb1⟩
    have HB1 := Lib.hid (step_below HB0.out hb1)
    have hres1 := kept_obj hb1 hres
    have hs1 := HB1.out.size
    have hlt1 := (Array.getElem?_eq_some_iff.1 hres1).1
    have hres2 : ((w1.alloc (.cells #[] 39)).alloc (.cells #[] 39)).heap[w.heap.size + 1]? = some (.cells (two nilS nilS) 28 (0, 0)) := (Below.heap_alloc _ _ _ (by simp; omega)).trans ((Below.heap_alloc _ _ _ hlt1).trans hres1)
    have hb2 : Below w.heap.size w ((w1.alloc (.cells #[] 39)).alloc (.cells #[] 39)) := (HB1.out.alloc hs1 _).alloc (by simp; omega) _
    have HB2 := Lib.hid hb2
    clear hb1 hb2
    go_wp2_with (refine store_mi rfl _ _ rfl (w.heap.size + 1) _ _ rfl rfl nilS nilS rfl rfl hres2 ?_)
    refine bodyPost_ret (ret_mi2 rfl _ _ (w.heap.size + 1) _ _ _ rfl rfl (heap_setRow2 hres2)) rfl ?_
    rw [HEQ.out.1, HEQ.out.2]
    exact ⟨_, _, _, _, _, _, rfl, below_setRow2 HB2.out (by omega) _, none_made w1 (w.heap.size + 1) _ hlt1 hs1⟩
  | true =>
    obtain ⟨⟨h1, h5, hl⟩, _⟩ := mktOk_parts hok
    obtain ⟨q1, q2⟩ := mkt_rows hok
    have HEQ := Lib.hid (turned_yes hok)
    have HCR := Lib.hid (fun (W : World) (hW : Below w.heap.size w W) => copies_any W R rs ls.length h1 h5 (by omega) q2 (HLR.out.2.below hW))
    have HCL := Lib.hid (fun (W : World) (hW : Below w.heap.size w W) => copies_any W L ls ls.length h1 h5 h5 q1 (HLR.out.1.below hW))
    rw [hok] at HSI
    clear hok q1 q2 h1 h5 hl
    go_enter Tryd.func29, Tryd.ntmps29
    go_wp2_with (refine load_mi rfl _ rfl w.heap.size L R rfl hbox ?_)
    clear hW0
    refine HSI.out.mono ?_
    rintro e w1 ⟨rfl, hb1⟩
    have HB1 := Lib.hid (step_below HB0.out hb1)
    have hres1 := kept_obj hb1 hres
    have hbox1 := kept_obj hb1 hbox
    have HX := Lib.hid (And.intro hbox1 hres1)
    have hs1 := HB1.out.size
    have hlt1 := (Array.getElem?_eq_some_iff.1 hres1).1
    obtain ⟨y0, y1, yf, yl⟩ := two_cells (w := w1.drew) hbox1
    clear hb1 hres hbox hres1 hbox1
    go_wp2
    go_region_law (first
      | (go_simp; go_at_call 59; (with_reducible refine (HCR.out _ HB1.out.drew).mono ?_); rintro e w2 ⟨A1, c1, us1, rfl, hb2, ho2⟩; obtain ⟨z0, z1, zf, zl⟩ := two_cells (kept_obj hb2 HX.out.1); have hB2 := step_below HB1.out.drew hb2; have hs2 := hb2.size)
      | (go_simp; go_at_call 59; (with_reducible refine (HCL.out _ hB2).mono ?_); rintro e w3 ⟨A2, c2, us2, rfl, hb3, ho3⟩; obtain ⟨u0, u1, uf, ul⟩ := two_cells (kept_obj hb3 (kept_obj hb2 HX.out.2)); have hB3 := step_below hB2 hb3; have hs3 := hb3.size))
    all_goals go_wp2
    all_goals
      obtain ⟨t1, t2, t3⟩ := turned_done HB1.out hlt1 (below_undrew hb2) hb3 ho2 ho3 HX.out.2
      refine bodyPost_ret (ret_mi2 rfl _ _ (w.heap.size + 1) _ _ _ rfl rfl t1) rfl ?_
      rw [HEQ.out.1, HEQ.out.2]
      exact ⟨_, _, _, _, _, _, rfl, t2, t3⟩

end Go.Proofs.YtahilcnmjnjcaaaDoor
