/-
  impl.matchPoly: the matching polynomial of a counter's graph.
-/
import Derived.Test.YtejbeglchholhaaDoorPolyOf
import Derived.Test.YtejbeglchholhaaDoorImplNums
import Derived.Test.YtejbeglchholhaaDoorSix
import Derived.Test.YtejbeglchholhaaDoorMPoly
namespace Go.Proofs.YtejbeglchholhaaDoor
set_option linter.unusedVariables false
set_option linter.unusedSimpArgs false
open Go.RowKit Go.Shelf

theorem mpoly1_enter (args : Array Value) (W : World) : (callFunc 41 args).run Tryd.prog W = .ok (.enter 41 args) W := by go_simp

set_option maxRecDepth 100000 in
set_option maxHeartbeats 1000000 in
theorem mpoly1_any (n p : Nat) (hp : p ≤ n) (hn : n ≤ 8) (g : Nat → Nat) (hg : ∀ k, g k ≤ 43046721) (Bn Bm : Nat) (w : World) (cn : w.cell? ⟨Bn, 0, none⟩ = some (.int .i64 (n : Int))) (hm : ∀ i, i < 5 → w.cell? ⟨Bm, i, none⟩ = some (.int .i64 (g i : Nat))) :
    Calls Tryd.prog 41 #[.int .i64 (p : Int), .pointer (some ⟨Bn, 0, none⟩), .pointer (some ⟨Bm, 0, none⟩)] w fun e w' => e = .returned (.int .i64 (polyAt n g p)) ∧ w = w' := by
  obtain ⟨d, hd⟩ : ∃ d, n - p = d := ⟨_, rfl⟩
  have hd8 : d ≤ 8 := by omega
  have hw : IntKind.i64.wrap ((n : Int) - (p : Int)) = (d : Int) := by rw [wraps_i64 _ (by omega) (by omega)]; omega
  have hw2 := (wrap_eq _).symm.trans hw
  obtain ⟨q, hq⟩ : ∃ q, d / 2 = q := ⟨_, rfl⟩
  have hq5 : q < 5 := by omega
  have hc : w.cell? ⟨Bm, q, none⟩ = some (.int .i64 (g q : Nat)) := hm q hq5
  have hqi : (q : Int) < 5 := by omega
  have hgq := hg q
  have HV : Hid (polyAt n g p = if d % 2 = 0 then (if q % 2 = 0 then (g q : Int) else -(g q : Int)) else 0) := Lib.hid (by unfold polyAt; rw [hd, hq])
  have hdq : (d : Int).tdiv 2 = (q : Int) := by rw [Int.tdiv_eq_ediv_of_nonneg (by omega)]; omega
  have hdq2 : (d : Int) / 2 = (q : Int) := by omega
  clear hg hd hm
  rcases Nat.mod_two_eq_zero_or_one d with h0 | h1
  · have hr : ((d : Int) % 2) = 0 := by omega
    have hr2 : (d : Int).tmod 2 = 0 := by rw [Int.tmod_eq_emod_of_nonneg (by omega)]; omega
    rcases Nat.mod_two_eq_zero_or_one q with k0 | k1
    · have hs : ((q : Int) % 2) = 0 := by omega
      have hs2 : (q : Int).tmod 2 = 0 := by rw [Int.tmod_eq_emod_of_nonneg (by omega)]; omega
      rw [if_pos h0, if_pos k0] at HV
      clear h0 k0 hq
      go_enter Tryd.func41, Tryd.ntmps41
      go_wp2
      go_ret
      exact ⟨by rw [HV.out]; rfl, rfl⟩
    · have hs : ((q : Int) % 2) = 1 := by omega
      have hs2 : (q : Int).tmod 2 = 1 := by rw [Int.tmod_eq_emod_of_nonneg (by omega)]; omega
      rw [if_pos h0, if_neg (by omega)] at HV
      clear h0 k1 hq
      go_enter Tryd.func41, Tryd.ntmps41
      go_wp2
      go_ret
      exact ⟨by rw [HV.out]; rfl, rfl⟩
  · have hr : ((d : Int) % 2) = 1 := by omega
    have hr2 : (d : Int).tmod 2 = 1 := by rw [Int.tmod_eq_emod_of_nonneg (by omega)]; omega
    rw [if_neg (by omega)] at HV
    clear h1 hq
    go_enter Tryd.func41, Tryd.ntmps41
    go_wp2
    go_ret
    exact ⟨by rw [HV.out]; rfl, rfl⟩

theorem mpoly_run (w : World) (n : Nat) (hn : n ≤ 8) (g : Nat → Nat) (hg : ∀ k, g k ≤ 43046721) (Bn Bm : Nat) (cn : w.cell? ⟨Bn, 0, none⟩ = some (.int .i64 (n : Int))) (hm : ∀ i, i < 5 → w.cell? ⟨Bm, i, none⟩ = some (.int .i64 (g i : Nat))) (hlt : Bn < w.heap.size) (hlt2 : Bm < w.heap.size) :
    Calls Tryd.prog 40 #[.int .i64 ((n + 1 : Nat) : Int), .func (.func 41) #[] #[.pointer (some ⟨Bn, 0, none⟩), .pointer (some ⟨Bm, 0, none⟩)]] w fun e w' => ∃ u, e = .returned u ∧ Below w.heap.size w w' ∧ Owns w' w.heap.size u (trim (mpL n g)) := by
  refine (polyOf_nat _ (n + 1) (by omega) _ _ (polyAt n g) mpoly1_enter ?_)
  intro k W hk hb
  refine (mpoly1_any n k (by omega) hn g hg Bn Bm W ((hb.cell (p := ⟨Bn, 0, none⟩) hlt).trans cn) (fun i hi => (hb.cell (p := ⟨Bm, i, none⟩) hlt2).trans (hm i hi))).mono ?_
  rintro e w' ⟨rfl, rfl⟩
  exact ⟨rfl, Below.refl _ _⟩

theorem run_store_last (w : World) (o : Obj) (g : Nat → Nat) :
    (storeCells ⟨w.heap.size + 1, 0, none⟩ (ncells g).toList).run Tryd.prog ((w.alloc o).alloc (.cells #[.int .i64 0, .int .i64 0, .int .i64 0, .int .i64 0, .int .i64 0] 56)) = .ok () ((w.alloc o).alloc (.cells (ncells g) 56)) := by
  have hn := World.alloc_heap_new (w.alloc o) (.cells (ncells fun _ => 0) 56)
  rw [World.size_alloc] at hn
  have := run_store_nums _ (w.heap.size + 1) g (fun _ => 0) hn
  rw [ncells_zeros, this]
  have e := World.setRow_alloc_new (w.alloc o) (ncells fun _ => 0) (ncells g) 56
  rw [World.size_alloc] at e
  rw [e]

theorem run_store_first (w : World) (o : Obj) (g : Nat → Nat) :
    (storeCells ⟨w.heap.size, 0, none⟩ (ncells g).toList).run Tryd.prog ((w.alloc (.cells #[.int .i64 0, .int .i64 0, .int .i64 0, .int .i64 0, .int .i64 0] 56)).alloc o) = .ok () (((w.alloc (.cells #[.int .i64 0, .int .i64 0, .int .i64 0, .int .i64 0, .int .i64 0] 56)).alloc o).setRow w.heap.size (ncells g)) := by
  refine run_store_nums _ w.heap.size g (fun _ => 0) ?_
  rw [Below.heap_alloc _ _ _ (by simp)]
  exact World.alloc_heap_new _ _

theorem at1 {w W1 : World} (hsz : W1.heap.size = w.heap.size + 1) (o : Obj) : (W1.alloc o).drew.heap[w.heap.size + 1]? = some o := by rw [← hsz]; exact World.alloc_heap_new W1 o
theorem at2a {w W1 : World} (hsz : W1.heap.size = w.heap.size + 1) (o o' : Obj) : ((W1.alloc o).alloc o').drew.heap[w.heap.size + 1]? = some o := by
  show ((W1.alloc o).alloc o').heap[w.heap.size + 1]? = some o
  rw [Below.heap_alloc _ _ _ (by rw [World.size_alloc]; omega), ← hsz]; exact World.alloc_heap_new W1 o
theorem at2b {w W1 : World} (hsz : W1.heap.size = w.heap.size + 1) (o o' : Obj) : ((W1.alloc o).alloc o').drew.heap[w.heap.size + 1 + 1]? = some o' := by
  show ((W1.alloc o).alloc o').heap[w.heap.size + 1 + 1]? = some o'
  have := World.alloc_heap_new (W1.alloc o) o'
  rw [World.size_alloc] at this
  rw [← hsz]; exact this
theorem int_facts {W : World} {b : Nat} (h : W.heap[b]? = some (.cells #[.int .i64 0] 3 (0, 0))) : W.cell? ⟨b, 0, none⟩ = some (.int .i64 0) ∧ W.frozen? ⟨b, 0, none⟩ = false ∧ b < W.heap.size :=
  ⟨by rw [cell_of_row _ _ _ _ _ _ h]; rfl, frozen_of_row W b 0 _ _ h, (Array.getElem?_eq_some_iff.1 h).1⟩
abbrev zero5 : Array Value := #[.int .i64 0, .int .i64 0, .int .i64 0, .int .i64 0, .int .i64 0]
theorem num_facts {W : World} {b : Nat} (h : W.heap[b]? = some (.cells zero5 56 (0, 0))) : (W.cell? ⟨b, 0, none⟩ = some (.int .i64 0) ∧ W.cell? ⟨b, 1, none⟩ = some (.int .i64 0) ∧ W.cell? ⟨b, 2, none⟩ = some (.int .i64 0) ∧ W.cell? ⟨b, 3, none⟩ = some (.int .i64 0) ∧ W.cell? ⟨b, 4, none⟩ = some (.int .i64 0)) ∧
    (W.frozen? ⟨b, 0, none⟩ = false ∧ W.frozen? ⟨b, 1, none⟩ = false ∧ W.frozen? ⟨b, 2, none⟩ = false ∧ W.frozen? ⟨b, 3, none⟩ = false ∧ W.frozen? ⟨b, 4, none⟩ = false) ∧ b < W.heap.size := by
  refine ⟨⟨?_, ?_, ?_, ?_, ?_⟩, ⟨frozen_of_row W b 0 _ _ h, frozen_of_row W b 1 _ _ h, frozen_of_row W b 2 _ _ h, frozen_of_row W b 3 _ _ h, frozen_of_row W b 4 _ _ h⟩, (Array.getElem?_eq_some_iff.1 h).1⟩ <;> (rw [cell_of_row _ _ _ _ _ _ h]; rfl)

set_option maxRecDepth 100000 in
set_option maxHeartbeats 40000000 in
theorem matchPoly_any (n : Nat) (f : Nat → Nat) (h8 : n ≤ 8) (hf : ∀ i, f i < 256) {w0 w : World} {B m : Nat} (hB : w0.heap.size ≤ B) (hb : Below w0.heap.size w0 w) (hM : Memo w B f m) (hm : m ≤ 1000000000) (hT : Tab w0) :
    Calls Tryd.prog 26 #[.agg (ccells n f B)] w fun e w' => ∃ u, e = .returned u ∧ Below w0.heap.size w0 w' ∧ Owns w' w0.heap.size u (trim (mpL n (nums f (2 ^ n - 1)))) := by
  have hg : ∀ k, nums f (2 ^ n - 1) k ≤ 43046721 := fun k => nums_small (all256 h8) k
  have hb1 : Below w.heap.size w (w.alloc (.cells (ccells n f B) 52)) := (Below.refl _ _).alloc (Nat.le_refl _) _
  have hc1 : (w.alloc (.cells (ccells n f B) 52)).heap[w.heap.size]? = some (.cells (ccells n f B) 52 (0, 0)) := World.alloc_heap_new _ _
  have hsB : B < w.heap.size := hM.lt
  obtain ⟨W1, hW1⟩ : ∃ W1, w.alloc (.cells (ccells n f B) 52) = W1 := ⟨_, rfl⟩
  have hsz : W1.heap.size = w.heap.size + 1 := by rw [← hW1]; simp
  rw [hW1] at hb1 hc1
  have hcall : ∀ W, (W = W1.drew ∨ (∃ o, W = (W1.alloc o).drew) ∨ ∃ o o', W = ((W1.alloc o).alloc o').drew) → Calls Tryd.prog 23 #[.agg (ccells n f B)] W fun e w2 => e = .returned (.agg #[.int .i64 (nums f (2 ^ n - 1) 0 : Nat), .int .i64 (nums f (2 ^ n - 1) 1 : Nat), .int .i64 (nums f (2 ^ n - 1) 2 : Nat), .int .i64 (nums f (2 ^ n - 1) 3 : Nat), .int .i64 (nums f (2 ^ n - 1) 4 : Nat)]) ∧
      Below w0.heap.size w0 w2 ∧ w2.cell? ⟨w.heap.size, 0, none⟩ = some (.int .i64 (n : Int)) ∧ w.heap.size < w2.heap.size ∧ (∀ b, w.heap.size ≤ b → b < W.heap.size → w2.heap[b]? = W.heap[b]?) := by
    intro W hWW
    have hW : Below W1.heap.size W1 W := by
      rcases hWW with rfl | ⟨o, rfl⟩ | ⟨o, o', rfl⟩
      · exact (Below.refl _ _).drew
      · exact ((Below.refl _ _).alloc (Nat.le_refl _) _).drew
      · exact (((Below.refl _ _).alloc (Nat.le_refl _) _).alloc (by rw [World.size_alloc]; exact Nat.le_succ _) _).drew
    refine (whole_read (w := w0) (w1 := W) h8 hf hB ((hb.trans (hb1.mono hb.size)).trans (hW.mono (by have := hb.size; omega))) (((hM.below hb1).below hW)) hm hT).mono ?_
    rintro e w2 ⟨rfl, h2, h3, h4⟩
    have hcc := (h4.block w.heap.size (by have := hW.size; omega) (by omega)).trans ((hW.block w.heap.size (by omega)).trans hc1)
    exact ⟨rfl, h3, (counter_cells hcc).1, (Array.getElem?_eq_some_iff.1 hcc).1, fun b h1 h2 => h4.block _ h2 (by omega)⟩
  have hcall2 : ∀ W, (W = W1.drew ∨ (∃ o, W = (W1.alloc o).drew) ∨ ∃ o o', W = ((W1.alloc o).alloc o').drew) → Calls Tryd.prog 23 #[.agg #[.int .i64 n, .int .i64 (f 0 : Nat), .int .i64 (f 1 : Nat), .int .i64 (f 2 : Nat), .int .i64 (f 3 : Nat), .int .i64 (f 4 : Nat), .int .i64 (f 5 : Nat), .int .i64 (f 6 : Nat), .int .i64 (f 7 : Nat), .map (some B)]] W _ := hcall
  have HCALL := Lib.hid hcall2
  obtain ⟨c0, cs, c9, _, _⟩ := counter_cells hc1
  have c1 : W1.cell? ⟨w.heap.size, 1, none⟩ = _ := cs 0 (by decide)
  have c2 : W1.cell? ⟨w.heap.size, 2, none⟩ = _ := cs 1 (by decide)
  have c3 : W1.cell? ⟨w.heap.size, 3, none⟩ = _ := cs 2 (by decide)
  have c4 : W1.cell? ⟨w.heap.size, 4, none⟩ = _ := cs 3 (by decide)
  have c5 : W1.cell? ⟨w.heap.size, 5, none⟩ = _ := cs 4 (by decide)
  have c6 : W1.cell? ⟨w.heap.size, 6, none⟩ = _ := cs 5 (by decide)
  have c7 : W1.cell? ⟨w.heap.size, 7, none⟩ = _ := cs 6 (by decide)
  have c8 : W1.cell? ⟨w.heap.size, 8, none⟩ = _ := cs 7 (by decide)
  clear cs hcall hcall2 hf hT hM
  go_enter Tryd.func26, Tryd.ntmps26
  go_wp2
  rename_i K0 hK0
  have hbs := hb.size
  have HG := Lib.hid hg
  clear hg
  have KEY : ∀ (b3 b4 : Nat) (Wz : World), Lies w0 Wz b3 b4 n (nums f (2 ^ n - 1) 0 : Nat) (nums f (2 ^ n - 1) 1 : Nat) (nums f (2 ^ n - 1) 2 : Nat) (nums f (2 ^ n - 1) 3 : Nat) (nums f (2 ^ n - 1) 4 : Nat) →
      K0 { tmps := #[.agg (ccells n f B), .pointer (some ⟨w.heap.size, 0, none⟩), .slice none 0 0, .pointer (some ⟨b3, 0, none⟩), .pointer (some ⟨b4, 0, none⟩), .pointer (some ⟨w.heap.size, 0, none⟩), .pointer (some ⟨w.heap.size, 0, none⟩), .int .i64 n,
        .agg #[.int .i64 n, .int .i64 (f 0 : Nat), .int .i64 (f 1 : Nat), .int .i64 (f 2 : Nat), .int .i64 (f 3 : Nat), .int .i64 (f 4 : Nat), .int .i64 (f 5 : Nat), .int .i64 (f 6 : Nat), .int .i64 (f 7 : Nat), .map (some B)],
        .agg #[.int .i64 (nums f (2 ^ n - 1) 0 : Nat), .int .i64 (nums f (2 ^ n - 1) 1 : Nat), .int .i64 (nums f (2 ^ n - 1) 2 : Nat), .int .i64 (nums f (2 ^ n - 1) 3 : Nat), .int .i64 (nums f (2 ^ n - 1) 4 : Nat)], undef, undef, undef, undef], defers := [] } Wz := by
    intro b3 b4 Wz hl
    refine hK0 _ _ ?_
    have hc3 := hl.int
    have hn8 : (n : Int) ≤ 8 := by omega
    have hrun := mpoly_run Wz n h8 _ HG.out b3 b4 hl.int (fun i hi => by
      match i, hi with
      | 0, _ => exact hl.c0
      | 1, _ => exact hl.c1
      | 2, _ => exact hl.c2
      | 3, _ => exact hl.c3
      | 4, _ => exact hl.c4) hl.lt3 hl.lt4
    push_cast at hrun
    have HRUN := Lib.hid hrun
    have HL := Lib.hid hl
    clear hrun hl
    go_wp2_with (go_at_call 40; refine HRUN.out.mono ?_; rintro e w4 ⟨u, rfl, hb4, ho4⟩)
    go_ret
    exact ⟨u, rfl, step_below HL.out.below hb4, owns_mono ho4 HL.out.below.size⟩
  clear hK0
  go_region_with (first | (go_at_call 23; (with_reducible refine (HCALL.out _ (.inl rfl)).mono ?_); rintro e w3 ⟨rfl, hb3, hd0, hs3, hbk⟩; clear hbk) | (go_at_call 23; (with_reducible refine (HCALL.out _ (.inr (.inl ⟨(.cells #[.int .i64 0] 3), rfl⟩))).mono ?_); rintro e w3 ⟨rfl, hb3, hd0, hs3, hbk⟩; obtain ⟨i0, i1, i2⟩ := int_facts ((hbk (w.heap.size + 1) (by omega) (by simp; omega)).trans (at1 hsz _)); clear hbk) | (go_at_call 23; (with_reducible refine (HCALL.out _ (.inr (.inl ⟨(.cells zero5 56), rfl⟩))).mono ?_); rintro e w3 ⟨rfl, hb3, hd0, hs3, hbk⟩; obtain ⟨⟨n0, n1, n2, n3, n4⟩, ⟨m0, m1, m2, m3, m4⟩, m5⟩ := num_facts ((hbk (w.heap.size + 1) (by omega) (by simp; omega)).trans (at1 hsz _)); clear hbk) | (go_at_call 23; (with_reducible refine (HCALL.out _ (.inr (.inr ⟨(.cells #[.int .i64 0] 3), (.cells zero5 56), rfl⟩))).mono ?_); rintro e w3 ⟨rfl, hb3, hd0, hs3, hbk⟩; obtain ⟨i0, i1, i2⟩ := int_facts ((hbk (w.heap.size + 1) (by omega) (by simp; omega)).trans (at2a hsz _ _)); obtain ⟨⟨n0, n1, n2, n3, n4⟩, ⟨m0, m1, m2, m3, m4⟩, m5⟩ := num_facts ((hbk (w.heap.size + 1 + 1) (by omega) (by simp; omega)).trans (at2b hsz _ _)); clear hbk) | (go_at_call 23; (with_reducible refine (HCALL.out _ (.inr (.inr ⟨(.cells zero5 56), (.cells #[.int .i64 0] 3), rfl⟩))).mono ?_); rintro e w3 ⟨rfl, hb3, hd0, hs3, hbk⟩; obtain ⟨⟨n0, n1, n2, n3, n4⟩, ⟨m0, m1, m2, m3, m4⟩, m5⟩ := num_facts ((hbk (w.heap.size + 1) (by omega) (by simp; omega)).trans (at2a hsz _ _)); obtain ⟨i0, i1, i2⟩ := int_facts ((hbk (w.heap.size + 1 + 1) (by omega) (by simp; omega)).trans (at2b hsz _ _)); clear hbk))
  all_goals (change K0 _ _; refine KEY _ _ _ ?_)
  all_goals first
    | (with_reducible exact lies_aa hb3)
    | (with_reducible exact lies_aa' hb3)
    | (with_reducible exact lies_sa hb3 (by omega) i0 i2)
    | (with_reducible exact lies_as hb3 (by omega) n0 n1 n2 n3 n4 m5)
    | (with_reducible exact lies_ss (by omega) hb3 (by omega) (by omega) i0 n0 n1 n2 n3 n4 i2 m5)
    | exact lies_aa hb3
    | exact lies_aa' hb3
    | exact lies_sa hb3 (by omega) i0 i2
    | exact lies_as hb3 (by omega) n0 n1 n2 n3 n4 m5
    | exact lies_ss (by omega) hb3 (by omega) (by omega) i0 n0 n1 n2 n3 n4 i2 m5

end Go.Proofs.YtejbeglchholhaaDoor
