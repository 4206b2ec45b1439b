/-
  impl.GraphBeside, where both are graphs that fit: what it hands back.
-/
import Derived.Test.YtbjpokjllkblaaaDoorImplBes
import Derived.Test.YtbjpokjllkblaaaDoorEdgesB
namespace Go.Proofs.YtbjpokjllkblaaaDoor
set_option linter.unusedVariables false
set_option linter.unusedSimpArgs false
open Go.RowKit Go.Shelf
attribute [local go_sem] Oper.semAt_some
set_option maxRecDepth 100000

theorem bes_three {xs ys : List Int} {N : Nat} {w1 w2 w3 : World} (hb2 : Below (w1.alloc (.cells (gcells xs.length (gfun xs)) 41)).heap.size (w1.alloc (.cells (gcells xs.length (gfun xs)) 41)) w2)
    (hb3 : Below (w2.alloc (.cells (gcells ys.length (gfun ys)) 41)).heap.size (w2.alloc (.cells (gcells ys.length (gfun ys)) 41)) w3) :
    (w3.alloc (.cells (gcells N (fun _ => 0)) 41)).heap[w1.heap.size]? = some (.cells (gcells xs.length (gfun xs)) 41 (0, 0)) ∧
    (w3.alloc (.cells (gcells N (fun _ => 0)) 41)).heap[w2.heap.size]? = some (.cells (gcells ys.length (gfun ys)) 41 (0, 0)) ∧
    (w3.alloc (.cells (gcells N (fun _ => 0)) 41)).heap[w3.heap.size]? = some (.cells (gcells N (fun _ => 0)) 41 (0, 0)) ∧ w1.heap.size < w2.heap.size ∧ w2.heap.size < w3.heap.size := by
  have hs := hb2.size
  have hs3 := hb3.size
  simp at hs hs3
  have k1 := (Below.heap_alloc w2 (.cells (gcells ys.length (gfun ys)) 41) _ (by omega)).trans ((hb2.block _ (by simp)).trans (World.alloc_heap_new w1 (.cells (gcells xs.length (gfun xs)) 41)))
  have k2 := World.alloc_heap_new w2 (.cells (gcells ys.length (gfun ys)) 41)
  exact ⟨(Below.heap_alloc w3 _ _ (by omega)).trans ((hb3.block _ (by simp; omega)).trans k1), (Below.heap_alloc w3 _ _ (by omega)).trans ((hb3.block _ (by simp)).trans k2), World.alloc_heap_new w3 _, by omega, by omega⟩

/-- What a round over the edges leaves that links one more. -/
theorem bes_round {n₀ n Bg Bb N : Nat} {F0 F1 : Nat → Nat} {X X2 : World} (hn0 : n₀ ≤ Bb) (hbn : Bb < n) (hg : Bg ≠ Bb) (hB : X.heap[Bb]? = some (.cells (gcells N F0) 41 (0, 0))) (hgl : Bg < X.heap.size) (hb2 : Below X.heap.size X X2) (D : Nat) :
    KeepsFrom D X (X2.setRow Bb (gcells N F1)) ∧ KeepsE n₀ Bg n X (X2.setRow Bb (gcells N F1)) ∧ (X2.setRow Bb (gcells N F1)).heap[Bb]? = some (.cells (gcells N F1) 41 (0, 0)) ∧ (∀ k, k ≠ Bb → k < X.heap.size → (X2.setRow Bb (gcells N F1)).heap[k]? = X.heap[k]?) ∧ Below n₀ X (X2.setRow Bb (gcells N F1)) := by
  have hlt := (Array.getElem?_eq_some_iff.1 hB).1
  have hB2 := (hb2.block _ hlt).trans hB
  have hoth : ∀ k, k ≠ Bb → k < X.heap.size → (X2.setRow Bb (gcells N F1)).heap[k]? = X.heap[k]? := fun k hk hkx => (heap_setRow_other _ _ _ _ hk).trans (hb2.block _ hkx)
  have hbel : Below n₀ X (X2.setRow Bb (gcells N F1)) := below_setRow (hb2.mono (by omega)) hn0 _
  refine ⟨⟨by rw [size_setRow]; exact hb2.size, fun k o hk ho hc => ?_⟩, ⟨hbel, hoth _ hg hgl, fun k c t fr hk ho ht => ?_⟩, heap_setRow_same hB2, hoth, hbel⟩
  · have hkx := (Array.getElem?_eq_some_iff.1 ho).1
    by_cases e : k = Bb
    · subst e; rw [hB] at ho; cases ho; cases hc
    · exact (hoth k e hkx).trans ho
  · exact hoth k (by omega) (Array.getElem?_eq_some_iff.1 ho).1

/-- What the loops over the edges hold: the graph as far as it is linked. -/
def BothG (N Bb : Nat) (F : Nat → Nat) (X : World) : Prop := X.heap[Bb]? = some (.cells (gcells N F) 41 (0, 0))
theorem bothG_own {β : Type} (N Bb : Nat) (H : β → Nat → Nat) : Own (fun (b : β) X => BothG N Bb (H b) X) := fun _ _ _ _ hs hg hr => cells_kept hs hg hr
theorem shP_lt {f : Nat → Nat} {n m : Nat} (h8 : m + n ≤ 8) {pre : List (Fin 8 × Fin 8)} (hp : pre <+: pairsTo f n n) : ∀ p ∈ shP m pre, p.1 < 8 ∧ p.2 < 8 := by
  intro p hp1
  unfold shP at hp1
  rw [List.mem_map] at hp1
  obtain ⟨e, he, rfl⟩ := hp1
  obtain ⟨q1, q2, q3, q4⟩ := pairsTo_mem (hp.subset he)
  simp
  omega

theorem bes_leave (w : World) (B : Nat) (n : Nat) (zs : List Int) (tmps : Array Value) (hp2 : tmps[4]? = some (.slice (some ⟨B, 0, none⟩) n n)) (hp3 : tmps[5]? = some (.bool true)) (ds : List Deferred) (W : World)
    (hM : Marks w.heap.size ds W) (hB : Below w.heap.size w W) (ho : W.ownsRow w.heap.size 3 1 (.slice (some ⟨B, 0, none⟩) n n) n (vals zs)) (hl : zs.length = n) :
    bodyPostM Fence.wide 9 Tryd.prog Tryd.f5 (GivesInts w true zs) .ret { tmps := tmps, defers := ds } W := by
  refine leaves_marks (F := Fence.wide) (n := 9) w.heap.size (fun W => Below w.heap.size w W ∧ W.ownsRow w.heap.size 3 1 (.slice (some ⟨B, 0, none⟩) n n) n (vals zs)) ?_ ?_ ds W hM ⟨hB, ho⟩
  · rintro W D hD hk ⟨h1, h2⟩
    exact ⟨below_shut h1 hD hk, ownsRow_putObj h2 _ hk rfl⟩
  · rintro W ⟨h1, h2⟩
    refine ⟨.tuple #[.slice (some ⟨B, 0, none⟩) n n, .bool true], by simp [results, Tryd.f5, go_sem, hp2, hp3], _, rfl, h1, ?_⟩
    rw [← hl] at h2 ⊢
    exact h2

set_option maxHeartbeats 4000000 in
theorem implBeside_yes (w : World) (v u : Value) (xs ys : List Int) (hv : Ints w v xs) (hu : Ints w u ys) (hr : ∀ x ∈ xs, I64 x) (hq : ∀ x ∈ ys, I64 x) (hT : Tab w) (hg : gIn xs = true) (hh : gIn ys = true) (h8 : xs.length + ys.length ≤ 8) :
    Calls Tryd.prog 5 #[v, u] w (GivesInts w true (glist (xs.length + ys.length) (besG xs.length ys.length (gfun xs) (gfun ys)))) := by
  have h1 := from_any w v xs hv hr hT
  have h2 := fun W (h : Ints W u ys) (ht : Tab W) => from_any W u ys h hq ht
  rw [hg, bes_from_yes hg] at h1
  rw [hh, bes_from_yes hh] at h2
  have H1 := Lib.hid h1
  have H2 := Lib.hid h2
  have HU := Lib.hid hu
  have HT := Lib.hid hT
  obtain ⟨x1, x8, xok⟩ := gIn_parts hg
  obtain ⟨y1, y8, yok⟩ := gIn_parts hh
  have HPX := Lib.hid (gfun_pow xok)
  have HPY := Lib.hid (gfun_pow yok)
  obtain ⟨N, hN⟩ : ∃ N, xs.length + ys.length = N := ⟨_, rfl⟩
  have hNi : (xs.length : Int) + (ys.length : Int) = (N : Int) := by omega
  have HBN := Lib.hid (fun W => bare_yes N (by omega) (by omega) W)
  rw [hN]
  have HN := Lib.hid hN
  clear h1 h2 hu hv hr hq hT hg hh xok yok hN
  refine (callsIn_wide (n := 9)).1 ?_
  refine callsIn_of_wp_marks Tryd.func5 rfl trivial ?_ rfl
  simp only [Tryd.ntmps5, List.size_toArray, List.length_cons, List.length_nil, Nat.reduceAdd, Nat.reduceSub, Array.replicate_succ, Array.replicate_zero, List.push_toArray, List.append_toArray, List.nil_append, List.cons_append]
  gi_wp2_with (first
    | (refine ⟨trivial, ?_⟩; gi_at_call 13; with_reducible refine (callsIn_wide.2 H1.out).mono ?_; rintro e w1 ⟨rfl, hb1⟩; have HB1 := Lib.hid (hb1.alloc hb1.size (.cells (gcells xs.length (gfun xs)) 41)))
    | (refine ⟨trivial, ?_⟩; gi_at_call 13; with_reducible refine (callsIn_wide.2 (H2.out _ (HU.out.below HB1.out) (HT.out.later HB1.out))).mono ?_; rintro e w2 ⟨rfl, hb2⟩; have HB2 := Lib.hid (step_below HB1.out (hb2.alloc hb2.size (.cells (gcells ys.length (gfun ys)) 41))); obtain ⟨c1, c2⟩ := bes_cells (ys := ys) (xs := xs) hb2)
    | (refine store_graph_new_in rfl _ _ rfl xs.length (gfun xs) rfl rfl ?_)
    | (refine store_graph_new_in rfl _ _ rfl ys.length (gfun ys) rfl rfl ?_)
    | (refine ⟨trivial, ?_⟩; gi_at_call 14; refine (callsIn_wide.2 (HBN.out _)).mono ?_; rintro e w3 ⟨rfl, hb3⟩; have HB3 := Lib.hid (step_below HB2.out (hb3.alloc hb3.size (.cells (gcells N (fun _ => 0)) 41))); obtain ⟨k1, k2, k3, hs12, hs23⟩ := bes_three (xs := xs) (ys := ys) (N := N) hb2 hb3)
    | (refine store_graph_new_in rfl _ _ rfl N (fun _ => 0) rfl rfl ?_)
    | (refine load_graph_in rfl _ rfl _ xs.length (gfun xs) rfl k1 ?_)
    | (refine ⟨trivial, ?_⟩; gi_at_call 15; refine (callsIn_wide.2 (edges_any xs.length (gfun xs) _)).mono ?_; rintro e w' ⟨rfl, rfl⟩))
  clear c1 c2
  obtain ⟨W3, hW3⟩ : ∃ W3, w3.alloc (.cells (gcells N (fun _ => 0)) 41) = W3 := ⟨_, rfl⟩
  rw [hW3] at k1 k2 k3 HB3 ⊢
  have hs3 : W3.heap.size = w3.heap.size + 1 := by rw [← hW3]; simp
  have hs0 : w.heap.size ≤ w1.heap.size := hb1.size
  clear hW3 hb1 hb2 hb3
  obtain ⟨W0, hW0⟩ : ∃ W0, W3.alloc (.cells (gcells xs.length (gfun xs)) 41) = W0 := ⟨_, rfl⟩
  have hb30 : Below W3.heap.size W3 W0 := by rw [← hW0]; exact (Below.refl _ _).alloc (Nat.le_refl _) _
  have hsz : W0.heap.size = W3.heap.size + 1 := by rw [← hW0]; simp
  have hb0 : Below w.heap.size w W0 := HB3.out.trans (hb30.mono (by omega))
  have hg0 : W0.heap[W3.heap.size]? = some (.cells (gcells xs.length (gfun xs)) 41 (0, 0)) := by rw [← hW0]; exact World.alloc_heap_new _ _
  have j1 := (hb30.block _ (by omega)).trans k1
  have j2 := (hb30.block _ (by omega)).trans k2
  have j3 := (hb30.block _ (by omega)).trans k3
  have hT0 : Tab W0 := HT.out.later hb0
  rw [hW0]
  clear hW0 k1 k2 k3
  have hB3 : w3.heap.size < W0.heap.size := by omega
  rw [hs3] at hg0
  refine wpIn_range_nest rfl (by decide) (gf := 23) (lb := #[.pointer (some ⟨w3.heap.size + 1, 0, none⟩)]) rfl trivial (enters_of Tryd.func23 (by kernel_rfl) rfl)
    (edges_stopsB (9 - 1) (by decide) (w3.heap.size + 1) w.heap.size xs.length (gfun xs) x8 HPX.out W0 HT.out.lt (by omega) (by omega) hg0 hT0) (Below.refl _ _) keepsE_t (keepsE_b (by omega) (by omega)) (fun _ => rfl)
    (fun pre X => BothG N w3.heap.size (lnkP (fun _ => 0) (shP 0 (pre.map (·.1)))) X ∧ X.heap[w3.heap.size + 1]? = some (.cells (gcells xs.length (gfun xs)) 41 (0, 0)) ∧ X.heap[w1.heap.size]? = some (.cells (gcells xs.length (gfun xs)) 41 (0, 0)) ∧ X.heap[w2.heap.size]? = some (.cells (gcells ys.length (gfun ys)) 41 (0, 0)) ∧ Below w.heap.size w X)
    (fun _ _ _ => False)
    (OwnFrom.and (Own.from (bothG_own N w3.heap.size (fun pre : List (EdgeIn xs.length) => lnkP (fun _ => 0) (shP 0 (pre.map (·.1))))) _) (OwnFrom.and (Own.from (fun _ _ _ _ hs hg hr => cells_kept hs hg hr) _) (OwnFrom.and (Own.from (fun _ _ _ _ hs hg hr => cells_kept hs hg hr) _) (OwnFrom.and (Own.from (fun _ _ _ _ hs hg hr => cells_kept hs hg hr) _) (ownFrom_below (Nat.le_refl _) (by omega))))))
    (fun c => ownFrom_pure _ (fun _ => False))
    ⟨j3, hg0, j1, j2, hb0⟩
    (fun x => { tmps := #[v, u, undef, undef, .slice none 0 0, .bool false, .pointer (some ⟨w1.heap.size, 0, none⟩), .bool true, .pointer (some ⟨w2.heap.size, 0, none⟩), .bool true, .pointer (some ⟨w3.heap.size, 0, none⟩), .int .i64 (x.1.1.val : Int), .int .i64 (x.1.2.val : Int), undef, undef, .tuple #[.agg (gcells xs.length (gfun xs)), .bool true], v, .tuple #[.agg (gcells xs.length (gfun xs)), .bool true], .agg (gcells xs.length (gfun xs)), .bool true, .tuple #[.agg (gcells ys.length (gfun ys)), .bool true], u, .tuple #[.agg (gcells ys.length (gfun ys)), .bool true], .agg (gcells ys.length (gfun ys)), .bool true, .bool true, .bool false, .bool false, .bool true, .bool false, .bool false, .tuple #[.agg (gcells N (fun _ => 0)), .bool true], .pointer (some ⟨w1.heap.size, 0, none⟩), .int .i64 xs.length, .pointer (some ⟨w2.heap.size, 0, none⟩), .int .i64 ys.length, .int .i64 N, .tuple #[.agg (gcells N (fun _ => 0)), .bool true], .agg (gcells N (fun _ => 0)), .bool true, .bool true, .bool false, .agg (gcells xs.length (gfun xs)), edgesSeq (w3.heap.size + 1), .int .i64 (x.1.1.val : Int), .int .i64 (x.1.2.val : Int), undef, undef, undef, undef, undef, undef, undef, undef, undef, undef, undef, undef, undef, undef, undef, undef, undef, undef, undef, undef], defers := [] })
    ?assign ?body ?done ?stop
  case assign =>
    intro l x W K hK
    gi_wp2
    exact hK
  case body =>
    rintro l pre x X ⟨hJ, hgX, h1X, h2X, hbX⟩ hlen
    obtain ⟨Fp, hFp⟩ : ∃ Fp, lnkP (fun _ => 0) (shP 0 (pre.map (·.1))) = Fp := ⟨_, rfl⟩
    rw [hFp] at hJ
    have hJ : X.heap[w3.heap.size]? = some (.cells (gcells N Fp) 41 (0, 0)) := hJ
    have hF8 : ∀ i, Fp i < 256 := by
      rw [← hFp]
      refine lnkP_lt (fun _ => by decide) _ (fun p hp => ?_)
      unfold shP at hp
      rw [List.mem_map] at hp
      obtain ⟨e, _, rfl⟩ := hp
      simp
    have HF8 := Lib.hid hF8
    have hsn : lnkP (fun _ => 0) (shP 0 ((pre ++ [x]).map (·.1))) = lnk Fp x.1.1.val x.1.2.val := by
      rw [map_snoc_val, shP_snoc, lnkP_snoc, hFp]; simp
    have HSN := Lib.hid hsn
    have hglt := (Array.getElem?_eq_some_iff.1 hgX).1
    clear hF8 hsn hFp
    gi_wp2_with (first
      | (refine load_graph_in rfl _ rfl _ N Fp rfl hJ ?_)
      | (refine ⟨trivial, ?_⟩; gi_at_call 16; refine (CallsIn.inRound l (callsIn_wide.2 (linked_any N Fp x.1.1.val x.1.2.val x.1.1.isLt x.1.2.isLt HF8.out _))).mono ?_; rintro e X2 ⟨rfl, hbX2⟩)
      | (refine store_graph_in rfl _ _ rfl w3.heap.size N _ rfl rfl N Fp ((hbX2.block _ (by omega)).trans hJ) ?_))
    obtain ⟨r1, r2, r3, r4, r5⟩ := bes_round (n₀ := w.heap.size) (n := W0.heap.size) (Bg := w3.heap.size + 1) (F1 := lnk Fp x.1.1.val x.1.2.val) (by omega) hB3 (by omega) hJ hglt hbX2 W0.heap.size
    exact ⟨r1, r2, by unfold BothG; rw [HSN.out]; exact r3, (r4 _ (by omega) hglt).trans hgX, (r4 _ (by omega) (by omega)).trans h1X, (r4 _ (by omega) (by omega)).trans h2X, hbX.trans r5⟩
  case done =>
    rintro D qs X hD hqs ⟨hJ, _, h1X, h2X, hbX⟩ hKD
    rw [hqs] at hJ
    obtain ⟨Fq, hFq⟩ : ∃ Fq, lnkP (fun _ => 0) (shP 0 (pairsTo (gfun xs) xs.length xs.length)) = Fq := ⟨_, rfl⟩
    rw [hFq] at hJ
    have hJ : X.heap[w3.heap.size]? = some (.cells (gcells N Fq) 41 (0, 0)) := hJ
    gi_wp2_with (first
      | (refine load_graph_in rfl _ rfl _ ys.length (gfun ys) rfl h2X ?_)
      | (refine ⟨trivial, ?_⟩; gi_at_call 15; refine (callsIn_wide.2 (edges_any ys.length (gfun ys) _)).mono ?_; rintro e w' ⟨rfl, rfl⟩))
    have hXs := hbX.size
    have hDlt := (Array.getElem?_eq_some_iff.1 hKD).1
    have hw3X := (Array.getElem?_eq_some_iff.1 hJ).1
    have hFq8 : ∀ i, Fq i < 256 := by
      rw [← hFq]
      refine lnkP_lt (fun _ => by decide) _ (fun p hp => ?_)
      unfold shP at hp
      rw [List.mem_map] at hp
      obtain ⟨e, _, rfl⟩ := hp
      simp
    have HFQ8 := Lib.hid hFq8
    have HFQ := Lib.hid hFq
    obtain ⟨W5, hW5⟩ : ∃ W5, X.alloc (.cells (gcells ys.length (gfun ys)) 41) = W5 := ⟨_, rfl⟩
    have hb5 : Below X.heap.size X W5 := by rw [← hW5]; exact (Below.refl _ _).alloc (Nat.le_refl _) _
    have hs5 : W5.heap.size = X.heap.size + 1 := by rw [← hW5]; simp
    have hg5 : W5.heap[X.heap.size]? = some (.cells (gcells ys.length (gfun ys)) 41 (0, 0)) := by rw [← hW5]; exact World.alloc_heap_new _ _
    have m1 := (hb5.block _ (by omega)).trans h1X
    have m3 := (hb5.block _ hw3X).trans hJ
    have mD := (hb5.block _ hDlt).trans hKD
    have hbw5 : Below w.heap.size w W5 := hbX.trans (hb5.mono hXs)
    have hT5 : Tab W5 := HT.out.later hbw5
    rw [hW5]
    clear hW5 hFq hFq8 h1X h2X hKD hJ
    refine wpIn_range_nest rfl (by decide) (gf := 23) (lb := #[.pointer (some ⟨X.heap.size, 0, none⟩)]) rfl trivial (enters_of Tryd.func23 (by kernel_rfl) rfl)
      (edges_stopsB (9 - 1) (by decide) X.heap.size w.heap.size ys.length (gfun ys) y8 HPY.out W5 HT.out.lt (by omega) (by omega) hg5 hT5) (Below.refl _ _) keepsE_t (keepsE_b (by omega) (by omega)) (fun _ => rfl)
      (fun pre Y => BothG N w3.heap.size (lnkP Fq (shP xs.length (pre.map (·.1)))) Y ∧ Y.heap[X.heap.size]? = some (.cells (gcells ys.length (gfun ys)) 41 (0, 0)) ∧ Y.heap[w1.heap.size]? = some (.cells (gcells xs.length (gfun xs)) 41 (0, 0)) ∧ KeepsFrom w.heap.size W5 Y ∧ Below w.heap.size w Y)
      (fun _ _ _ => False)
      (OwnFrom.and (Own.from (bothG_own N w3.heap.size (fun pre : List (EdgeIn ys.length) => lnkP Fq (shP xs.length (pre.map (·.1))))) _) (OwnFrom.and (Own.from (fun _ _ _ _ hs hg hr => cells_kept hs hg hr) _) (OwnFrom.and (Own.from (fun _ _ _ _ hs hg hr => cells_kept hs hg hr) _) (OwnFrom.and (ownFrom_keepsFrom (Nat.le_refl _)) (ownFrom_below (Nat.le_refl _) (by omega))))))
      (fun c => ownFrom_pure _ (fun _ => False))
      ⟨m3, hg5, m1, KeepsFrom.refl _ _, hbw5⟩
      (fun x => { tmps := #[v, u, undef, undef, .slice none 0 0, .bool false, .pointer (some ⟨w1.heap.size, 0, none⟩), .bool true, .pointer (some ⟨w2.heap.size, 0, none⟩), .bool true, .pointer (some ⟨w3.heap.size, 0, none⟩), undef, undef, .int .i64 (x.1.1.val : Int), .int .i64 (x.1.2.val : Int), .tuple #[.agg (gcells xs.length (gfun xs)), .bool true], v, .tuple #[.agg (gcells xs.length (gfun xs)), .bool true], .agg (gcells xs.length (gfun xs)), .bool true, .tuple #[.agg (gcells ys.length (gfun ys)), .bool true], u, .tuple #[.agg (gcells ys.length (gfun ys)), .bool true], .agg (gcells ys.length (gfun ys)), .bool true, .bool true, .bool false, .bool false, .bool true, .bool false, .bool false, .tuple #[.agg (gcells N (fun _ => 0)), .bool true], .pointer (some ⟨w1.heap.size, 0, none⟩), .int .i64 xs.length, .pointer (some ⟨w2.heap.size, 0, none⟩), .int .i64 ys.length, .int .i64 N, .tuple #[.agg (gcells N (fun _ => 0)), .bool true], .agg (gcells N (fun _ => 0)), .bool true, .bool true, .bool false, .agg (gcells xs.length (gfun xs)), edgesSeq (w3.heap.size + 1), undef, undef, undef, undef, undef, undef, .agg (gcells ys.length (gfun ys)), edgesSeq X.heap.size, .int .i64 (x.1.1.val : Int), .int .i64 (x.1.2.val : Int), undef, undef, undef, undef, undef, undef, undef, undef, undef, undef, undef, undef], defers := [] })
      ?assign2 ?body2 ?done2 ?stop2
    case assign2 =>
      intro l x W K hK
      gi_wp2
      exact hK
    case body2 =>
      rintro l pre x Y ⟨hJ, hgY, h1Y, hkY, hbY⟩ hlen
      obtain ⟨Fp, hFp⟩ : ∃ Fp, lnkP Fq (shP xs.length (pre.map (·.1))) = Fp := ⟨_, rfl⟩
      rw [hFp] at hJ
      have hJ : Y.heap[w3.heap.size]? = some (.cells (gcells N Fp) 41 (0, 0)) := hJ
      have hF8 : ∀ i, Fp i < 256 := by
        rw [← hFp]
        refine lnkP_lt HFQ8.out _ (fun p hp => ?_)
        unfold shP at hp
        rw [List.mem_map] at hp
        obtain ⟨e, he, rfl⟩ := hp
        obtain ⟨e', _, rfl⟩ := List.mem_map.1 he
        have := e'.2
        simp
        omega
      have HF8 := Lib.hid hF8
      obtain ⟨a, ha⟩ : ∃ a, xs.length + x.1.1.val = a := ⟨_, rfl⟩
      obtain ⟨b, hb⟩ : ∃ b, xs.length + x.1.2.val = b := ⟨_, rfl⟩
      have hx2 := x.2
      have ha8 : a < 8 := by omega
      have hb8 : b < 8 := by omega
      have hai : (xs.length : Int) + (x.1.1.val : Int) = (a : Int) := by omega
      have hbi : (xs.length : Int) + (x.1.2.val : Int) = (b : Int) := by omega
      have hsn : lnkP Fq (shP xs.length ((pre ++ [x]).map (·.1))) = lnk Fp a b := by
        rw [map_snoc_val, shP_snoc, lnkP_snoc, hFp, ha, hb]
      have HSN := Lib.hid hsn
      have hglt := (Array.getElem?_eq_some_iff.1 hgY).1
      obtain ⟨c1, _⟩ := graph_cells h1Y
      clear hF8 hsn hFp ha hb hx2
      gi_wp2_with (first
        | (refine load_graph_in rfl _ rfl _ N Fp rfl hJ ?_)
        | (refine ⟨trivial, ?_⟩; gi_at_call 16; refine (CallsIn.inRound l (callsIn_wide.2 (linked_any N Fp a b ha8 hb8 HF8.out _))).mono ?_; rintro e X2 ⟨rfl, hbX2⟩)
        | (refine store_graph_in rfl _ _ rfl w3.heap.size N _ rfl rfl N Fp ((hbX2.block _ (by omega)).trans hJ) ?_))
      obtain ⟨r1, r2, r3, r4, r5⟩ := bes_round (n₀ := w.heap.size) (n := W5.heap.size) (Bg := X.heap.size) (F1 := lnk Fp a b) (by omega) (by omega) (by omega) hJ hglt hbX2 w.heap.size
      exact ⟨keepsFrom_mono r1 (by omega), r2, by unfold BothG; rw [HSN.out]; exact r3, (r4 _ (by omega) hglt).trans hgY, (r4 _ (by omega) (by omega)).trans h1Y, hkY.trans r1, hbY.trans r5⟩
    case done2 =>
      rintro D2 rs Y hD2 hrs ⟨hJ, _, _, hkY, hbY⟩ hKD2
      rw [hrs, show lnkP Fq (shP xs.length (pairsTo (gfun ys) ys.length ys.length)) = besG xs.length ys.length (gfun xs) (gfun ys) by unfold besG; rw [HFQ.out]] at hJ
      obtain ⟨Fr, hFr⟩ : ∃ Fr, besG xs.length ys.length (gfun xs) (gfun ys) = Fr := ⟨_, rfl⟩
      rw [hFr] at hJ
      have HFR := Lib.hid hFr
      have hJ : Y.heap[w3.heap.size]? = some (.cells (gcells N Fr) 41 (0, 0)) := hJ
      have hYD := hkY.same D _ (by omega) mD rfl
      have hM0 := (Marks.nil w.heap.size Y).cons (D := D) (by omega) hYD (by simp)
      have hM := hM0.cons (D := D2) (by omega) hKD2 (fun d hd e => by
        obtain rfl := List.mem_singleton.1 hd
        cases e
        omega)
      have HM := Lib.hid hM
      have hN8 : N ≤ 8 := by have := HN.out; omega
      clear hYD hM0 hM hKD2 mD m1 m3 hg5 hkY
      gi_wp2_with (first
        | (refine load_graph_in rfl _ rfl _ N Fr rfl hJ ?_)
        | (refine ⟨trivial, ?_⟩; gi_at_call 17; refine (callsIn_wide.2 (list_any N Fr hN8 _)).mono ?_; rintro e Z ⟨rfl, hbZ, hoZ⟩))
      have hoZ2 : Z.ownsRow Y.heap.size 3 1 (.slice (some ⟨Y.heap.size + 1, 0, none⟩) N N) (glist N Fr).length (vals (glist N Fr)) := hoZ
      rw [glist_len] at hoZ2
      have hMZ := HM.out.below hbZ
      have hbZw := hbY.trans (hbZ.mono hbY.size)
      have hoW := owns_mono hoZ2 hbY.size
      clear hoZ hoZ2
      rw [HFR.out]
      exact bes_leave w (Y.heap.size + 1) N (glist N Fr) _ (by rfl) (by rfl) _ Z hMZ hbZw hoW (glist_len _ _)
    case stop2 =>
      rintro D c pre W _ _ h _
      exact h.elim
  case stop =>
    rintro D c pre W _ _ h _
    exact h.elim

theorem implBeside_any (w : World) (v u : Value) (xs ys : List Int) (hv : Ints w v xs) (hu : Ints w u ys) (hr : ∀ x ∈ xs, I64 x) (hq : ∀ x ∈ ys, I64 x) (hT : Tab w) :
    Calls Tryd.prog 5 #[v, u] w (GivesInts w (besOk xs ys) (besOf xs ys)) := by
  cases hok : besOk xs ys with
  | false =>
    rw [besOf_no hok]
    exact implBeside_no w v u xs ys hv hu hr hq hT hok
  | true =>
    rw [bes_list hok]
    unfold besOk at hok
    simp only [Bool.and_eq_true, decide_eq_true_eq] at hok
    exact implBeside_yes w v u xs ys hv hu hr hq hT hok.1.1 hok.1.2 hok.2

end Go.Proofs.YtbjpokjllkblaaaDoor
