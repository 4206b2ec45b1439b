/-
  impl: (side).list, (market).turned.
-/
import Derived.Test.YtahilcnmjnjcaaaDoorSpecTurned
import Derived.Test.YtahilcnmjnjcaaaDoorReadPair
import Derived.Test.YtahilcnmjnjcaaaDoorImplMCost
namespace Go.Proofs.YtahilcnmjnjcaaaDoor
set_option linter.unusedVariables false
set_option linter.unusedSimpArgs false
open Go.RowKit

def fillV (us : List Value) (k : Nat) : List Value := us.take k ++ List.replicate (us.length - k) (.slice none 0 0)
theorem fillV_len (us : List Value) {k : Nat} (hk : k ≤ us.length) : (fillV us k).length = us.length := by unfold fillV; simp; omega
theorem fillV_all (us : List Value) : fillV us us.length = us := by unfold fillV; simp
theorem fillV_set (us : List Value) (k : Nat) (hk : k < us.length) : (fillV us k).set k us[k] = fillV us (k + 1) := by
  unfold fillV
  obtain ⟨m, hm⟩ : ∃ m, us.length - k = m + 1 := ⟨us.length - k - 1, by omega⟩
  rw [List.set_append_right _ _ (by simp; omega), hm, List.take_succ_eq_append_getElem hk, List.append_assoc]
  have e1 : k - (us.take k).length = 0 := by simp; omega
  have e2 : us.length - (k + 1) = m := by omega
  rw [e1, e2, List.replicate_succ, List.set_cons_zero]
  rfl

set_option maxRecDepth 100000 in
set_option maxHeartbeats 2000000 in
theorem list_any (w : World) (b : Value) (g cap : Nat) (us : List Value) (h1 : 1 ≤ us.length) (hl : us.length ≤ 5) (hsl : ∀ j (hj : j < us.length), IsSl us[j]) (hc : ∀ j (hj : j < us.length), w.cell? ⟨g, j, none⟩ = some us[j]) :
    Calls Tryd.prog 58 #[.agg (two (.slice (some ⟨g, 0, none⟩) us.length cap) b)] w fun e w' => e = .returned (.slice (some ⟨w.heap.size + 1, 0, none⟩) us.length us.length) ∧ Below w.heap.size w w' ∧
      w'.ownsRow w.heap.size 39 1 (.slice (some ⟨w.heap.size + 1, 0, none⟩) us.length us.length) us.length us := by
  have hmk := fun W => run_make_row' (P := Tryd.prog) 22 39 (.slice none 0 0) 24 Tryd.underlying22 infoRow rfl .i64 .i64 us.length (by omega) (by omega) W
  obtain ⟨W0, hW0⟩ : ∃ W0, w.alloc (.cells (two (.slice (some ⟨g, 0, none⟩) us.length cap) b) 55) = W0 := ⟨_, rfl⟩
  have hb0 : Below w.heap.size w W0 := by rw [← hW0]; exact (Below.refl _ _).alloc (Nat.le_refl _) _
  have hbox : W0.heap[w.heap.size]? = some (.cells (two (.slice (some ⟨g, 0, none⟩) us.length cap) b) 55 (0, 0)) := by rw [← hW0]; exact World.alloc_heap_new _ _
  have hsz0 : W0.heap.size = w.heap.size + 1 := by rw [← hW0]; simp
  obtain ⟨W1, hW1⟩ : ∃ W1, W0.alloc (.cells (madeCells #[.slice none 0 0] us.length) 39) = W1 := ⟨_, rfl⟩
  have hb1 : Below w.heap.size w W1 := by rw [← hW1]; exact hb0.alloc (by omega) _
  have hbox1 : W1.heap[w.heap.size]? = some (.cells (two (.slice (some ⟨g, 0, none⟩) us.length cap) b) 55 (0, 0)) := by rw [← hW1]; exact (Below.heap_alloc _ _ _ (by omega)).trans hbox
  have hown : W1.ownsRow w.heap.size 39 1 (.slice (some ⟨w.heap.size + 1, 0, none⟩) us.length us.length) us.length (fillV us 0) := by
    rw [← hW1]
    have := World.ownsRow_lit (base := w.heap.size) (e := 39) (size := 1) W0 (madeCells #[.slice none 0 0] us.length) us.length (by omega) (by unfold maxLen; omega) (by simp [madeCells])
    rw [toList_madeCells_one, hsz0] at this
    simpa [fillV] using this
  have HC := Lib.hid hc
  have HSL := Lib.hid hsl
  have HST := Lib.hid (And.intro hb1 hown)
  obtain ⟨x0, x1, xf, _⟩ := two_cells hbox
  obtain ⟨y0, y1, yf, _⟩ := two_cells hbox1
  have HSZ := Lib.hid hsz0
  clear hc hsl hb0 hb1 hown hbox hbox1
  go_enter Tryd.func58, Tryd.ntmps58
  go_wp2
  go_loopw [13] (fun i wr => ∃ k : Nat, k ≤ us.length ∧ i = .int .i64 k ∧ Below w.heap.size w wr ∧ wr.ownsRow w.heap.size 39 1 (.slice (some ⟨w.heap.size + 1, 0, none⟩) us.length us.length) us.length (fillV us k)) (fun i _ => us.length - (intOf i).toNat)
  case atStart => exact ⟨0, by omega, rfl, HST.out.1, HST.out.2⟩
  case round =>
    obtain ⟨k, hk, rfl, hb, ho⟩ := hrel
    by_cases hlt : k < us.length
    · have hcell0 := HC.out k hlt
      obtain ⟨A, n, c, hu⟩ := HSL.out k hlt
      have hset := fillV_set us k hlt
      rw [hu] at hcell0 hset
      have hcell := (hb.cell (p := ⟨g, k, none⟩) (World.block_lt_of_cell? w _ hcell0)).trans hcell0
      have hf := ho.frozenAt k
      obtain ⟨v0, hx0⟩ : ∃ v0, wr.cell? ⟨w.heap.size + 1, k, none⟩ = some v0 := by
        rw [ho.cellAt k (by omega), List.getElem?_eq_getElem (by rw [fillV_len us hk]; omega)]; exact ⟨_, rfl⟩
      have hst := ho.stored k (.slice A n c)
      rw [hset] at hst
      have HO := Lib.hid hst
      have HB := Lib.hid hb
      have hki : (k : Int) < (us.length : Int) := by omega
      have hk0 : (0 : Int) ≤ (k : Int) := by omega
      clear hcell0 hu hset hst ho hb
      go_wp2
      go_roundw
      case rel => exact ⟨k + 1, by omega, by go_num, HB.out.setCell (p := ⟨w.heap.size + 1, k, none⟩) (by show w.heap.size ≤ w.heap.size + 1; omega) _, HO.out.1⟩
      case measure => simp [intOf]; omega
    · obtain rfl : k = us.length := by omega
      rw [fillV_all] at ho
      have HO := Lib.hid (And.intro hb ho)
      clear hb ho
      go_wp2
      go_ret
      exact ⟨rfl, HO.out⟩

theorem OwnsMktX.wide {w : World} {lo lo' hi hi' : Nat} {L R : Value} {ls rs : List (List Int)} (h : OwnsMktX w lo hi L R ls rs) (hl : lo' ≤ lo) (hh : hi ≤ hi') : OwnsMktX w lo' hi' L R ls rs := by
  obtain ⟨us, us', p, q, p', q', h1, h2, h3⟩ := h
  exact ⟨us, us', p, q, p', q', h1.wide hl hh, h2.wide hl hh, h3.one, h3.two, h3.left, h3.right, h3.far, Nat.le_trans hl h3.lo1, Nat.le_trans h3.hi1 hh, Nat.le_trans hl h3.lo2, Nat.le_trans h3.hi2 hh⟩
theorem rows_of_ord {W1 W : World} {lo hi lo' hi' : Nat} {a v : Value} {us : List Value} {xss : List (List Int)} (h : OwnsOrd W1 lo' hi' a us xss) (hb : Below W1.heap.size W1 W) (ho : OwnsAt W lo hi 39 v us.length us) (hl : lo ≤ lo') (hh : hi' ≤ hi) : OwnsRows W lo hi v us xss :=
  ⟨h.len, by rw [← h.len]; exact ho, fun i hi2 => ((h.inner i hi2).below hb).wide hl hh, h.apart⟩
theorem inside_of_ord {W1 : World} {lo hi : Nat} {a : Value} {us : List Value} {xss : List (List Int)} (h : OwnsOrd W1 lo hi a us xss) : Inside us lo hi := fun i hi' k hk => ⟨((h.inner i hi').1.lt k hk).1, (h.inner i hi').2 k hk⟩
/-- What a side's lists look like to its walk. -/
theorem ord_cells {W1 : World} {lo hi : Nat} {a : Value} {us : List Value} {xss : List (List Int)} (h : OwnsOrd W1 lo hi a us xss) (h1 : 1 ≤ xss.length) :
    ∃ g cap, a = .slice (some ⟨g, 0, none⟩) us.length cap ∧ (∀ j (hj : j < us.length), W1.cell? ⟨g, j, none⟩ = some us[j]) ∧ (∀ j (hj : j < us.length), IsSl us[j]) := by
  have hl := h.len
  rcases h.outer.1.2 with ⟨_, hn⟩ | ⟨g, cap, cur, hv, _⟩
  · omega
  · refine ⟨g, cap, by rw [hl]; exact hv, fun j hj => ?_, fun j hj => owns_sl (h.inner j hj).1⟩
    have hc := h.outer.1.cells (g := g) (by rw [hv]; rfl) j us[j] (List.getElem?_eq_getElem hj)
    rw [addr_add, Nat.zero_add] at hc
    exact hc

/-- The market handed back: both outer rows new, the lists those of the market that was read. -/
theorem mkt_done {w W0 w1 w2 w3 : World} {a1 a3 v1 v2 : Value} {us us' : List Value} {ls rs : List (List Int)} {mid : Nat} (hB0 : Below w.heap.size w W0) (hg : w.heap.size + 2 ≤ W0.heap.size) (hb1 : Below W0.heap.size W0 w1) (hm1 : W0.heap.size ≤ mid) (hm2 : mid ≤ w1.heap.size)
    (h1 : OwnsOrd w1 W0.heap.size mid a1 us ls) (h3 : OwnsOrd w1 mid w1.heap.size a3 us' rs) (hb2 : Below w1.heap.size w1 w2) (hb3 : Below w2.heap.size w2 w3)
    (ho2 : w2.ownsRow w1.heap.size 39 1 v1 us'.length us') (ho3 : w3.ownsRow w2.heap.size 39 1 v2 us.length us) (hres : W0.heap[w.heap.size + 1]? = some (.cells (two nilS nilS) 28 (0, 0))) :
    ((w3.setCell ⟨w.heap.size + 1, 0, none⟩ v1).setCell ⟨w.heap.size + 1, 1, none⟩ v2).heap[w.heap.size + 1]? = some (.cells (two v1 v2) 28 (0, 0)) ∧
      Below w.heap.size w ((w3.setCell ⟨w.heap.size + 1, 0, none⟩ v1).setCell ⟨w.heap.size + 1, 1, none⟩ v2) ∧
      OwnsMktX ((w3.setCell ⟨w.heap.size + 1, 0, none⟩ v1).setCell ⟨w.heap.size + 1, 1, none⟩ v2) w.heap.size ((w3.setCell ⟨w.heap.size + 1, 0, none⟩ v1).setCell ⟨w.heap.size + 1, 1, none⟩ v2).heap.size v1 v2 rs ls := by
  have hw := within_two w3 (w.heap.size + 1) v1 v2
  have hs1 := hb1.size
  have hs2 := hb2.size
  have hs3 := hb3.size
  have hs4 := hw.size
  have ho2' := owns_below ho2 hb3
  have hb13 := step_below hb2 hb3
  refine ⟨two_set (kept_obj hb3 (kept_obj hb2 (kept_obj hb1 hres))), Below.within (step_below (step_below (step_below hB0 hb1) hb2) hb3) hw (by omega), ?_⟩
  have hx : OwnsMktX w3 W0.heap.size w3.heap.size v1 v2 rs ls := by
    refine ⟨us', us, mid, w1.heap.size, W0.heap.size, mid, rows_of_ord h3 hb13 ⟨owns_mono ho2' (by omega), fun k hk => (ho2'.lt k hk).2⟩ hm1 (by omega), rows_of_ord h1 hb13 ⟨owns_mono ho3 (by omega), fun k hk => (ho3.lt k hk).2⟩ (Nat.le_refl _) (by omega), inside_of_ord h3, inside_of_ord h1, fun k hk => .inr ?_, fun k hk => .inr ?_, .inr (Nat.le_refl _), hm1, by omega, Nat.le_refl _, by omega⟩
    · have := (ho2.lt k hk).1; omega
    · have := (ho3.lt k hk).1; omega
  exact (hx.kept hw (.inr (by omega))).wide (by omega) (by omega)

theorem nil_mkt (W : World) (lo : Nat) (hlo : lo ≤ W.heap.size) : OwnsMktX W lo W.heap.size nilS nilS [] [] :=
  ⟨[], [], lo, lo, lo, lo, owns_rows_nil _ _ _ (World.ownsRow_nil _ _ _ _), owns_rows_nil _ _ _ (World.ownsRow_nil _ _ _ _), ⟨fun i hi => by simp at hi, fun i hi => by simp at hi, fun k hk => (by cases hk), fun k hk => (by cases hk), .inl (Nat.le_refl _), Nat.le_refl _, hlo, Nat.le_refl _, hlo⟩⟩

set_option maxRecDepth 100000 in
set_option maxHeartbeats 4000000 in
theorem implTurned_any (w : World) (L R : Value) (ls rs : List (List Int)) (hL : IntRows w L ls) (hR : IntRows w R rs) :
    Calls Tryd.prog 28 #[.agg (two L R)] w (GivesMkt2 w (mktOk ls rs) (turnedL ls rs) (turnedR ls rs)) := by
  obtain ⟨W0, hW0⟩ : ∃ W0, (w.alloc (.cells (two L R) 28)).alloc (.cells (two nilS nilS) 28) = W0 := ⟨_, rfl⟩
  have hb0 : Below w.heap.size w W0 := by rw [← hW0]; exact ((Below.refl _ _).alloc (Nat.le_refl _) _).alloc (by simp) _
  have hsz0 : w.heap.size + 2 ≤ W0.heap.size := by rw [← hW0]; simp
  have hbox : W0.heap[w.heap.size]? = some (.cells (two L R) 28 (0, 0)) := by rw [← hW0]; exact heap_two_old _ _ _
  have hres : W0.heap[w.heap.size + 1]? = some (.cells (two nilS nilS) 28 (0, 0)) := by rw [← hW0]; exact heap_two_new _ _ _
  have HRM := Lib.hid (mktFrom_any W0 L R ls rs (hL.below hb0) (hR.below hb0))
  have HB0 := Lib.hid (And.intro hb0 hsz0)
  clear hL hR hb0 hsz0
  cases hok : mktOk ls rs with
  | false =>
    have HEQ := Lib.hid (turned_no hok)
    have HOK := Lib.hid hok
    clear hok
    go_enter Tryd.func28, Tryd.ntmps28
    go_wp2_with (refine load_mi rfl _ rfl w.heap.size L R rfl hbox ?_)
    clear hW0
    refine HRM.out.mono ?_
    rintro e w1 ⟨a1, a2, a3, a4, rfl, hb1, ⟨⟨A1, n1, c1, rfl⟩, ⟨A2, n2, c2, rfl⟩, ⟨A3, n3, c3, rfl⟩, ⟨A4, n4, c4, rfl⟩⟩, -⟩
    rw [HOK.out]
    have HB1 := Lib.hid (step_below HB0.out.1 hb1)
    have hs1 := HB1.out.size
    have hres1 := kept_obj hb1 hres
    have hlt1 := (Array.getElem?_eq_some_iff.1 hres1).1
    have hres2 : (w1.alloc (.cells (four (.slice A1 n1 c1) (.slice A2 n2 c2) (.slice A3 n3 c3) (.slice A4 n4 c4)) 60)).heap[w.heap.size + 1]? = some (.cells (two nilS nilS) 28 (0, 0)) := (Below.heap_alloc _ _ _ hlt1).trans hres1
    have HR2 := Lib.hid (And.intro (HB1.out.alloc hs1 (.cells (four (.slice A1 n1 c1) (.slice A2 n2 c2) (.slice A3 n3 c3) (.slice A4 n4 c4)) 60)) hres2)
    clear hb1 hres hres1 hbox
    go_wp2_with (refine store_mi rfl _ _ rfl (w.heap.size + 1) nilS nilS rfl rfl nilS nilS rfl rfl hres2 ?_)
    refine bodyPost_ret (ret_mi2 rfl _ _ (w.heap.size + 1) _ _ _ rfl rfl (heap_setRow2 hres2)) rfl ?_
    rw [HEQ.out.1, HEQ.out.2]
    have hb2 := below_setRow2 (g := w.heap.size + 1) HR2.out.1 (by omega) (two nilS nilS)
    exact ⟨_, _, _, _, _, _, rfl, hb2, nil_mkt _ _ hb2.size⟩
  | true =>
    obtain ⟨⟨h1, h5, hl⟩, _⟩ := mktOk_parts hok
    have HEQ := Lib.hid (turned_yes hok)
    have HOK := Lib.hid hok
    have HN := Lib.hid (And.intro h1 (And.intro h5 hl))
    clear hok h1 h5 hl
    go_enter Tryd.func28, Tryd.ntmps28
    go_wp2_with (refine load_mi rfl _ rfl w.heap.size L R rfl hbox ?_)
    clear hW0
    refine HRM.out.mono ?_
    rintro e w1 ⟨a1, a2, a3, a4, rfl, hb1, ⟨⟨A1, n1, c1, rfl⟩, ⟨A2, n2, c2, rfl⟩, ⟨A3, n3, c3, rfl⟩, ⟨A4, n4, c4, rfl⟩⟩, hat⟩
    rw [HOK.out]
    obtain ⟨mid, us, us', hm1, hm2, ho1, ho3⟩ := (hat HOK.out).own
    have hlu := ho1.len
    have hlu' := ho3.len
    obtain ⟨g1, cap1, e1, hc1, hs1⟩ := ord_cells ho1 HN.out.1
    obtain ⟨g3, cap3, e3, hc3, hs3⟩ := ord_cells ho3 (by have := HN.out; omega)
    obtain ⟨rfl, rfl, rfl⟩ : A1 = some ⟨g1, 0, none⟩ ∧ n1 = us.length ∧ c1 = cap1 := by simpa using e1
    obtain ⟨rfl, rfl, rfl⟩ : A3 = some ⟨g3, 0, none⟩ ∧ n3 = us'.length ∧ c3 = cap3 := by simpa using e3
    have HL1 := Lib.hid (fun (W : World) (hW : Below w1.heap.size w1 W) => list_any W (.slice A2 n2 c2) g1 c1 us (by have := HN.out; omega) (by have := HN.out; omega) hs1 (fun j hj => (hW.cell (World.block_lt_of_cell? w1 _ (hc1 j hj))).trans (hc1 j hj)))
    have HL3 := Lib.hid (fun (W : World) (hW : Below w1.heap.size w1 W) => list_any W (.slice A4 n4 c4) g3 c3 us' (by have := HN.out; omega) (by have := HN.out; omega) hs3 (fun j hj => (hW.cell (World.block_lt_of_cell? w1 _ (hc3 j hj))).trans (hc3 j hj)))
    have HAT := Lib.hid (And.intro hm1 (And.intro hm2 (And.intro ho1 (And.intro ho3 hb1))))
    have HRES := Lib.hid hres
    clear hat hm1 hm2 ho1 ho3 hb1 hc1 hs1 hc3 hs3 e1 e3 hlu hlu' hres hbox
    go_wp2_with (refine (mturned_any _ _ us.length c1 A2 n2 c2 _ us'.length c3 A4 n4 c4).mono ?_; rintro e w2 ⟨rfl, hb2⟩)
    obtain ⟨Wm, hWm⟩ : ∃ Wm, w2.alloc (.cells (four (.slice (some ⟨g3, 0, none⟩) us'.length c3) (.slice A4 n4 c4) (.slice (some ⟨g1, 0, none⟩) us.length c1) (.slice A2 n2 c2)) 60) = Wm := ⟨_, rfl⟩
    have hbm : Below w1.heap.size w1 Wm := by
      rw [← hWm]
      have q := step_below ((Below.refl w1.heap.size w1).alloc (Nat.le_refl _) _) hb2
      exact q.alloc q.size _
    have hmk : Wm.heap[w2.heap.size]? = some (.cells (four (.slice (some ⟨g3, 0, none⟩) us'.length c3) (.slice A4 n4 c4) (.slice (some ⟨g1, 0, none⟩) us.length c1) (.slice A2 n2 c2)) 60 (0, 0)) := by rw [← hWm]; exact World.alloc_heap_new _ _
    obtain ⟨y0, y1, y2, y3, _⟩ := four_cells (w := Wm.drew) hmk
    have HBM := Lib.hid (And.intro hbm hmk)
    have hrw : w2.alloc (.cells #[.slice (some ⟨g3, 0, none⟩) us'.length c3, .slice A4 n4 c4, .slice (some ⟨g1, 0, none⟩) us.length c1, .slice A2 n2 c2] 60) = Wm := hWm
    first | rw [hrw] | rw [hWm] | skip
    clear hWm hrw hbm hmk hb2
    go_region_law (first
      | (go_simp; go_at_call 58; (with_reducible refine (HL3.out _ HBM.out.1.drew).mono ?_); rintro e x2 ⟨rfl, hb2, ho2⟩; obtain ⟨z0, z1, z2, z3, _⟩ := four_cells (kept_obj hb2 HBM.out.2); have hB2 := step_below HBM.out.1.drew hb2)
      | (go_simp; go_at_call 58; (with_reducible refine (HL1.out _ hB2).mono ?_); rintro e x3 ⟨rfl, hb3, ho3⟩; obtain ⟨u0, u1, uf, ul⟩ := two_cells (kept_obj hb3 (kept_obj hB2 (kept_obj HAT.out.2.2.2.2 HRES.out)))))
    all_goals go_wp2
    all_goals
      obtain ⟨hm1, hm2, ho1, ho3', hb1⟩ := HAT.out
      obtain ⟨t1, t2, t3⟩ := mkt_done HB0.out.1 HB0.out.2 hb1 hm1 hm2 ho1 ho3' hB2 hb3 (owns_mono ho2 HBM.out.1.size) ho3 HRES.out
      refine bodyPost_ret (ret_mi2 rfl _ _ (w.heap.size + 1) _ _ _ rfl rfl t1) rfl ?_
      rw [HEQ.out.1, HEQ.out.2]
      exact ⟨_, _, _, _, _, _, rfl, t2, t3⟩

end Go.Proofs.YtahilcnmjnjcaaaDoor
