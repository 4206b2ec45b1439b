/-
  impl.GraphOf.
-/
import Derived.Test.YthafhcocgohjaabDoorOf
import Derived.Test.YthafhcocgohjaabDoorFit1
import Derived.Test.YthafhcocgohjaabDoorCore2
import Derived.Deep.DeepCutAuto
import Derived.Deep.RegionHeld3
import Derived.Deep.RegionWith
import Derived.Outline
namespace Go.Proofs.YthafhcocgohjaabDoor
set_option linter.unusedVariables false
set_option linter.unusedSimpArgs false
open Go.RowKit

/-- A whole graph into its block, cell by cell. -/
theorem run_store_graph (w : World) (g n : Nat) (f : Nat → Nat) (n0 : Nat) (f0 : Nat → Nat) (hg : w.heap[g]? = some (.cells (gcells n0 f0) 53 (0, 0))) :
    (storeCells ⟨g, 0, none⟩ (gcells n f).toList).run Tryd.prog w = .ok () (w.setRow g (gcells n f)) := by
  have := run_storeCells_from (P := Tryd.prog) g 53 (gcells n f).toList 0 (gcells n0 f0) w hg (by simp [gcells_size]) (fun v hv => (Array.all_eq_true_iff_forall_mem.1 (gcells_one n f)) v (by simpa using hv))
  simpa using this

set_option maxRecDepth 100000 in
set_option maxHeartbeats 4000000 in
theorem implOf_any (w : World) (n : Int) (v : Value) (xss : List (List Int)) (h : IntRows w v xss) :
    Calls Tryd.prog 39 #[.int .i64 n, v] w (GivesInts w (ofOk n xss) (ofOf n xss)) := by
  obtain ⟨A, cap, rfl, hm, hc⟩ := h.at
  have HC := Lib.hid hc
  clear hc h
  unfold maxLen at hm
  by_cases hn : 1 ≤ n ∧ n ≤ 8
  · obtain ⟨m, rfl⟩ : ∃ m : Nat, n = (m : Int) := ⟨n.toNat, by omega⟩
    have hok : ofOk (m : Int) xss = goodTo m xss xss.length := by unfold ofOk; rw [decide_eq_true hn]; simp
    have HOK := Lib.hid hok
    have hm1 : 1 ≤ m := by omega
    have hm8 : m ≤ 8 := by omega
    have HBY := Lib.hid (bare_yes m hm1 hm8 w)
    clear hn hok
    go_enter Tryd.func39, Tryd.ntmps39
    go_wp2_with (first
      | (go_at_call 64; refine HBY.out.mono ?_; rintro e w1 ⟨rfl, hb1⟩)
      | (refine store_graph_new rfl _ _ rfl m (fun _ => 0) rfl rfl ?_))
    go_loopw [9, 19] (fun _ i wr => ∃ k : Nat, k ≤ xss.length ∧ i = .int .i64 k ∧ goodTo m xss k = true ∧ Below w.heap.size w wr ∧ wr.heap[w1.heap.size]? = some (.cells (gcells m (linkTo xss k)) 53 (0, 0)))
      (fun _ i _ => xss.length - (intOf i).toNat)
    case atStart => exact ⟨0, by omega, rfl, by simp [goodTo], hb1.alloc hb1.size _, World.alloc_heap_new _ _⟩
    case round =>
      have hs1 := hb1.size
      clear hb1
      obtain ⟨k, hk, rfl, hg, hb, hgb⟩ := hrel
      by_cases hlt : k < xss.length
      · obtain ⟨b, off, u, rfl, hcell0, hx0⟩ := HC.out k hlt
        have hcell := (hb.cell (p := ⟨b, off + k, none⟩) (World.block_lt_of_cell? w _ hcell0)).trans hcell0
        obtain ⟨A2, cap2, rfl, hm2, hc2⟩ := hx0
        unfold maxLen at hm2
        have hki : (k : Int) < (xss.length : Int) := by omega
        have hfl := linkTo_lt hm8 k hk hg
        obtain ⟨f, hf⟩ : ∃ f, linkTo xss k = f := ⟨_, rfl⟩
        rw [hf] at hgb hfl
        obtain ⟨c0, cs, _, hlt1⟩ := graph_cells hgb
        have c1 := cs 0 (by decide)
        have c2 := cs 1 (by decide)
        have c3 := cs 2 (by decide)
        have c4 := cs 3 (by decide)
        have c5 := cs 4 (by decide)
        have c6 := cs 5 (by decide)
        have c7 := cs 6 (by decide)
        have c8 := cs 7 (by decide)
        have HG := Lib.hid hg
        have HGB := Lib.hid hgb
        have HF := Lib.hid hf
        have HFL := Lib.hid hfl
        clear hcell0 hg hgb hf hfl cs
        by_cases h2 : xss[k].length = 2
        · obtain ⟨e0, e1, he⟩ := pair_of h2
          obtain ⟨eb, eoff, rfl, hce0⟩ := hc2 0 (by omega)
          obtain ⟨eb', eoff', hbe, hce1⟩ := hc2 1 (by omega)
          cases hbe
          have hx0 : xss[k][0]'(by omega) = e0 := by simp [he]
          have hx1 : xss[k][1]'(by omega) = e1 := by simp [he]
          have hg0 : xss[k].getD 0 0 = e0 := by simp [he]
          have hg1 : xss[k].getD 1 0 = e1 := by simp [he]
          rw [hx0, Nat.add_zero] at hce0
          rw [hx1] at hce1
          have hebw : eb < w.heap.size := World.block_lt_of_cell? w _ hce0
          replace hce0 := (hb.cell (p := ⟨eb, eoff, none⟩) hebw).trans hce0
          replace hce1 := (hb.cell (p := ⟨eb, eoff + 1, none⟩) hebw).trans hce1
          have hebr : eb < wr.heap.size := by have := hb.size; omega
          rw [h2] at hcell
          have hl2 : xss[k].length = 2 := h2
          have HG0 := Lib.hid hg0
          have HG1 := Lib.hid hg1
          have HL2 := Lib.hid hl2
          have HN0 := Lib.hid (fun W => hasNode_is m f e0 W)
          have HN1 := Lib.hid (fun W => hasNode_is m f e1 W)
          clear hx0 hx1 hc2 h2 he hl2 hm2
          by_cases h01 : e0 = e1
          · have hbad : goodE m xss[k] = false := by
              unfold goodE; rw [hg0, hg1, decide_eq_false]; intro hh; exact hh.2.2.2 h01
            have heq : (e0 == e1) = true := by rw [beq_iff_eq]; exact h01
            have hno := goodTo_at hlt hbad
            have HN := Lib.hid hno
            clear hno hbad hg0 hg1 h01
            go_wp2
            go_quiet (fail)
            go_wp2
            go_ret2
            have e : ofOf (m : Int) xss = [] := by unfold ofOf; rw [HOK.out, HN.out]; simp
            rw [HOK.out, HN.out, e]
            exact ⟨_, rfl, below_drewN hb _, World.ownsRow_nil _ _ _ _⟩
          · have heq : (e0 == e1) = false := by rw [beq_eq_false_iff_ne]; exact h01
            by_cases h0 : 0 ≤ e0 ∧ e0 < (m : Int)
            · by_cases h1 : 0 ≤ e1 ∧ e1 < (m : Int)
              · have hgood : goodE m xss[k] = true := by
                  unfold goodE; rw [hg0, hg1, decide_eq_true_eq]; exact ⟨HL2.out, by omega, by omega, h01⟩
                obtain ⟨a, rfl⟩ : ∃ a : Nat, e0 = (a : Int) := ⟨e0.toNat, by omega⟩
                obtain ⟨c, rfl⟩ : ∃ c : Nat, e1 = (c : Int) := ⟨e1.toNat, by omega⟩
                have hN0 := HN0.out
                have hN1 := HN1.out
                rw [decide_eq_true h0] at hN0
                rw [decide_eq_true h1] at hN1
                have hE0 : ∀ W, Calls Tryd.prog 76 #[.agg #[.int .i64 (m : Int), .int .i64 (f 0 : Nat), .int .i64 (f 1 : Nat), .int .i64 (f 2 : Nat), .int .i64 (f 3 : Nat), .int .i64 (f 4 : Nat), .int .i64 (f 5 : Nat), .int .i64 (f 6 : Nat), .int .i64 (f 7 : Nat)], .int .i64 (a : Int)] W fun e w' => e = .returned (.bool true) ∧ w' = W.alloc (.cells (gcells m f) 53) := hN0
                have hE1 : ∀ W, Calls Tryd.prog 76 #[.agg #[.int .i64 (m : Int), .int .i64 (f 0 : Nat), .int .i64 (f 1 : Nat), .int .i64 (f 2 : Nat), .int .i64 (f 3 : Nat), .int .i64 (f 4 : Nat), .int .i64 (f 5 : Nat), .int .i64 (f 6 : Nat), .int .i64 (f 7 : Nat)], .int .i64 (c : Int)] W fun e w' => e = .returned (.bool true) ∧ w' = W.alloc (.cells (gcells m f) 53) := hN1
                have H0 := Lib.hid hE0
                have H1 := Lib.hid hE1
                have hnext := linkTo_succ hlt hg0 hg1
                have hgn : goodTo m xss (k + 1) = true := by rw [goodTo_succ hlt, HG.out, hgood]; rfl
                rw [HF.out] at hnext
                have HGN := Lib.hid hgn
                have HNX := Lib.hid hnext
                have HLK := Lib.hid (fun W => linked_any m f a c (by omega) (by omega) HFL.out W)
                clear hgood hg0 hg1 h01 hN0 hN1 hE0 hE1 hnext hgn h0 h1
                go_upto_region 7 with fail
                go_region_held3 (fun w' => (w'.cell? ⟨eb, eoff, none⟩ = some (.int .i64 (a : Int)) ∧ w'.cell? ⟨eb, eoff + 1, none⟩ = some (.int .i64 (c : Int))) ∧ (w'.cell? ⟨w1.heap.size, 0, none⟩ = some (.int .i64 (m : Int)) ∧ w'.cell? ⟨w1.heap.size, 1 + 0, none⟩ = some (.int .i64 (f 0 : Nat)) ∧ w'.cell? ⟨w1.heap.size, 1 + 1, none⟩ = some (.int .i64 (f 1 : Nat)) ∧ w'.cell? ⟨w1.heap.size, 1 + 2, none⟩ = some (.int .i64 (f 2 : Nat)) ∧ w'.cell? ⟨w1.heap.size, 1 + 3, none⟩ = some (.int .i64 (f 3 : Nat)) ∧ w'.cell? ⟨w1.heap.size, 1 + 4, none⟩ = some (.int .i64 (f 4 : Nat)) ∧ w'.cell? ⟨w1.heap.size, 1 + 5, none⟩ = some (.int .i64 (f 5 : Nat)) ∧ w'.cell? ⟨w1.heap.size, 1 + 6, none⟩ = some (.int .i64 (f 6 : Nat)) ∧ w'.cell? ⟨w1.heap.size, 1 + 7, none⟩ = some (.int .i64 (f 7 : Nat))))
                  (first | go_keep | (simp [*]; done) | skip)
                  (first
                    | (go_at_call 76; with_reducible refine (H0.out _).mono ?_; rintro e w' ⟨rfl, rfl⟩)
                    | (go_at_call 76; with_reducible refine (H1.out _).mono ?_; rintro e w' ⟨rfl, rfl⟩))
                go_wp2_with fail
                obtain ⟨wx, hwx⟩ : ∃ wx, ((wr.alloc (.cells (gcells m f) 53)).alloc (.cells (gcells m f) 53)).drew = wx := ⟨_, rfl⟩
                have hbx : Below wr.heap.size wr wx := by rw [← hwx]; exact (((Below.refl _ _).alloc (Nat.le_refl _) _).alloc (by simp) _).drew
                rw [hwx]
                clear hwx c0 c1 c2 c3 c4 c5 c6 c7 c8
                have hgx := (hbx.block _ hlt1).trans HGB.out
                obtain ⟨c0, cs, _, hltx⟩ := graph_cells hgx
                have c1 := cs 0 (by decide)
                have c2 := cs 1 (by decide)
                have c3 := cs 2 (by decide)
                have c4 := cs 3 (by decide)
                have c5 := cs 4 (by decide)
                have c6 := cs 5 (by decide)
                have c7 := cs 6 (by decide)
                have c8 := cs 7 (by decide)
                replace hce0 := (hbx.cell (p := ⟨eb, eoff, none⟩) hebr).trans hce0
                replace hce1 := (hbx.cell (p := ⟨eb, eoff + 1, none⟩) hebr).trans hce1
                have HGX := Lib.hid hgx
                clear cs hgx
                go_region_law (first
                  | (go_simp; go_at_call 81; refine (HLK.out _).mono ?_; rintro e w3 ⟨rfl, hb3⟩; have hrn := run_store_graph w3 w1.heap.size m (lnk f a c) m f ((hb3.block w1.heap.size (by exact hltx)).trans HGX.out); have hsz9 := gcells_size m (lnk f a c)))
                all_goals go_wp2
                all_goals go_roundw
                all_goals first
                  | (refine ⟨k + 1, by omega, by go_num, HGN.out, below_setRow (step_below (step_below hb hbx.drew) hb3) hs1 _, ?_⟩
                     rw [HNX.out]
                     exact heap_setRow_same ((hb3.block w1.heap.size (by exact hltx)).trans HGX.out))
                  | (simp [intOf]; omega)
              · have hbad : goodE m xss[k] = false := by
                  unfold goodE; rw [hg0, hg1, decide_eq_false]; intro hh; exact h1 hh.2.2.1
                have hN0 := HN0.out
                have hN1 := HN1.out
                rw [decide_eq_true h0] at hN0
                rw [decide_eq_false h1] at hN1
                have hE0 : ∀ W, Calls Tryd.prog 76 #[.agg #[.int .i64 (m : Int), .int .i64 (f 0 : Nat), .int .i64 (f 1 : Nat), .int .i64 (f 2 : Nat), .int .i64 (f 3 : Nat), .int .i64 (f 4 : Nat), .int .i64 (f 5 : Nat), .int .i64 (f 6 : Nat), .int .i64 (f 7 : Nat)], .int .i64 e0] W fun e w' => e = .returned (.bool true) ∧ w' = W.alloc (.cells (gcells m f) 53) := hN0
                have hE1 : ∀ W, Calls Tryd.prog 76 #[.agg #[.int .i64 (m : Int), .int .i64 (f 0 : Nat), .int .i64 (f 1 : Nat), .int .i64 (f 2 : Nat), .int .i64 (f 3 : Nat), .int .i64 (f 4 : Nat), .int .i64 (f 5 : Nat), .int .i64 (f 6 : Nat), .int .i64 (f 7 : Nat)], .int .i64 e1] W fun e w' => e = .returned (.bool false) ∧ w' = W.alloc (.cells (gcells m f) 53) := hN1
                have H0 := Lib.hid hE0
                have H1 := Lib.hid hE1
                have hno := goodTo_at hlt hbad
                have HN := Lib.hid hno
                clear hno hbad hg0 hg1 h01 hN0 hN1 hE0 hE1 h0 h1
                go_upto_region 7 with fail
                go_region_held3 (fun w' => (w'.cell? ⟨eb, eoff, none⟩ = some (.int .i64 e0) ∧ w'.cell? ⟨eb, eoff + 1, none⟩ = some (.int .i64 e1)) ∧ (w'.cell? ⟨w1.heap.size, 0, none⟩ = some (.int .i64 (m : Int)) ∧ w'.cell? ⟨w1.heap.size, 1 + 0, none⟩ = some (.int .i64 (f 0 : Nat)) ∧ w'.cell? ⟨w1.heap.size, 1 + 1, none⟩ = some (.int .i64 (f 1 : Nat)) ∧ w'.cell? ⟨w1.heap.size, 1 + 2, none⟩ = some (.int .i64 (f 2 : Nat)) ∧ w'.cell? ⟨w1.heap.size, 1 + 3, none⟩ = some (.int .i64 (f 3 : Nat)) ∧ w'.cell? ⟨w1.heap.size, 1 + 4, none⟩ = some (.int .i64 (f 4 : Nat)) ∧ w'.cell? ⟨w1.heap.size, 1 + 5, none⟩ = some (.int .i64 (f 5 : Nat)) ∧ w'.cell? ⟨w1.heap.size, 1 + 6, none⟩ = some (.int .i64 (f 6 : Nat)) ∧ w'.cell? ⟨w1.heap.size, 1 + 7, none⟩ = some (.int .i64 (f 7 : Nat))))
                  (first | go_keep | (simp [*]; done) | skip)
                  (first
                    | (go_at_call 76; with_reducible refine (H0.out _).mono ?_; rintro e w' ⟨rfl, rfl⟩)
                    | (go_at_call 76; with_reducible refine (H1.out _).mono ?_; rintro e w' ⟨rfl, rfl⟩))
                go_wp2
                go_ret2
                have e : ofOf (m : Int) xss = [] := by unfold ofOf; rw [HOK.out, HN.out]; simp
                rw [HOK.out, HN.out, e]
                exact ⟨_, rfl, ((hb.alloc hb.size _).alloc (by have := hb.size; simp; omega) _).drew, World.ownsRow_nil _ _ _ _⟩
            · have hbad : goodE m xss[k] = false := by
                unfold goodE; rw [hg0, hg1, decide_eq_false]; intro hh; exact h0 hh.2.1
              have hN0 := HN0.out
              rw [decide_eq_false h0] at hN0
              have hE0 : ∀ W, Calls Tryd.prog 76 #[.agg #[.int .i64 (m : Int), .int .i64 (f 0 : Nat), .int .i64 (f 1 : Nat), .int .i64 (f 2 : Nat), .int .i64 (f 3 : Nat), .int .i64 (f 4 : Nat), .int .i64 (f 5 : Nat), .int .i64 (f 6 : Nat), .int .i64 (f 7 : Nat)], .int .i64 e0] W fun e w' => e = .returned (.bool false) ∧ w' = W.alloc (.cells (gcells m f) 53) := hN0
              have H0 := Lib.hid hE0
              have hno := goodTo_at hlt hbad
              have HN := Lib.hid hno
              clear hno hbad hg0 hg1 h01 hN0 hE0 h0
              go_upto_region 7 with fail
              first
                | go_region_law (first | (go_simp; go_at_call 76; with_reducible refine (H0.out _).mono ?_; rintro e w' ⟨rfl, rfl⟩))
                | fail "law"
              all_goals go_wp2
              all_goals go_ret2
              all_goals (
                have e : ofOf (m : Int) xss = [] := by unfold ofOf; rw [HOK.out, HN.out]; simp
                rw [HOK.out, HN.out, e]
                exact ⟨_, rfl, (hb.alloc hb.size _).drew, World.ownsRow_nil _ _ _ _⟩)
        · have hne : (((xss[k].length : Nat) : Int) != 2) = true := by simp; omega
          have hbad : goodE m xss[k] = false := by unfold goodE; rw [decide_eq_false]; intro hh; exact h2 hh.1
          have hno := goodTo_at hlt hbad
          have HN := Lib.hid hno
          clear hno hbad h2 hc2
          go_wp2
          go_quiet (fail)
          go_wp2
          go_ret2
          have e : ofOf (m : Int) xss = [] := by unfold ofOf; rw [HOK.out, HN.out]; simp
          rw [HOK.out, HN.out, e]
          exact ⟨_, rfl, below_drewN hb _, World.ownsRow_nil _ _ _ _⟩
      · obtain rfl : k = xss.length := by omega
        have HGB := Lib.hid hgb
        have HG := Lib.hid hg
        clear hg hgb
        go_wp2_with (first
          | (refine load_graph rfl _ rfl _ m (linkTo xss xss.length) rfl HGB.out ?_)
          | (go_at_call 66; refine (list_any m _ hm8 _).mono ?_; rintro e w4 ⟨rfl, hb4, ho⟩))
        go_ret2
        have e : ofOf (m : Int) xss = glist m (linkTo xss xss.length) := by unfold ofOf; rw [if_pos (by rw [HOK.out]; exact HG.out)]; rfl
        rw [e]
        exact ⟨_, by rw [HOK.out, HG.out]; rfl, step_below hb hb4, owns_mono ho hb.size⟩
  · have hok : ofOk n xss = false := by unfold ofOk; rw [decide_eq_false hn]; rfl
    have ho : ofOf n xss = [] := by unfold ofOf; rw [hok]; simp
    have HBN := Lib.hid (bare_no n (by omega) w)
    rw [hok, ho]
    clear hn hok ho
    go_enter Tryd.func39, Tryd.ntmps39
    go_wp2_with (first
      | (go_at_call 64; refine HBN.out.mono ?_; rintro e w1 ⟨rfl, hb1⟩)
      | (refine store_graph_new rfl _ _ rfl 0 (fun _ => 0) rfl rfl ?_))
    go_ret2
    exact ⟨_, rfl, hb1.alloc hb1.size _, World.ownsRow_nil _ _ _ _⟩

end Go.Proofs.YthafhcocgohjaabDoor
