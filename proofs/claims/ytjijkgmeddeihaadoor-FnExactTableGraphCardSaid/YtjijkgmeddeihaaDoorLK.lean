/-
  LK: LinkF LinkTable.
-/
import Derived.Test.YtjijkgmeddeihaaDoorSpecTG
import Derived.Test.YtjijkgmeddeihaaDoorTList
import Derived.Test.YtjijkgmeddeihaaDoorLnkBit
import Derived.Test.YtjijkgmeddeihaaDoorSym
import Derived.Test.YtjijkgmeddeihaaDoorEdgesB
import Derived.Test.YtjijkgmeddeihaaDoorGraphsIn
import Derived.Test.YtjijkgmeddeihaaDoorTablesIn
import Derived.Test.YtjijkgmeddeihaaDoorSignSum
import Derived.Test.YtjijkgmeddeihaaDoorNest
import Derived.Test.YtjijkgmeddeihaaDoorHeldIn
import Derived.Deep.RegionWith
/-
  The table of a graph, linked edge by edge, is the one filled number by number: mathematics for (impl) linkTable.
-/
namespace Go.Proofs.YtjijkgmeddeihaaDoor
set_option linter.unusedVariables false
set_option linter.unusedSimpArgs false
open Go.RowKit

/-- One edge is linked. -/
def linkOne (back : Int) (F : Nat → Int) (a b : Nat) : Nat → Int := updI (updI F (6 * a + b) 1) (6 * b + a) back
def linkF (back : Int) (l : List (Fin 8 × Fin 8)) : Nat → Int := l.foldl (fun F e => linkOne back F e.1.val e.2.val) (fun _ => 0)
theorem linkF_snoc (back : Int) (l : List (Fin 8 × Fin 8)) (e : Fin 8 × Fin 8) : linkF back (l ++ [e]) = linkOne back (linkF back l) e.1.val e.2.val := by unfold linkF; rw [List.foldl_append]; rfl
theorem linkF_at (l : List (Fin 8 × Fin 8)) (hl : ∀ e ∈ l, e.1.val < e.2.val ∧ e.2.val < 6) (r c : Nat) (hr : r < 6) (hc : c < 6) :
    linkF 1 l (6 * r + c) = if ∃ e ∈ l, (e.1.val = r ∧ e.2.val = c) ∨ (e.1.val = c ∧ e.2.val = r) then 1 else 0 := by
  unfold linkF
  have key : ∀ (l : List (Fin 8 × Fin 8)) (F : Nat → Int), (∀ e ∈ l, e.1.val < e.2.val ∧ e.2.val < 6) → (l.foldl (fun F e => linkOne 1 F e.1.val e.2.val) F) (6 * r + c) = if ∃ e ∈ l, (e.1.val = r ∧ e.2.val = c) ∨ (e.1.val = c ∧ e.2.val = r) then 1 else F (6 * r + c) := by
    intro l
    induction l with
    | nil => intro F _; simp
    | cons e t ih =>
      intro F hl
      rw [List.foldl_cons, ih _ (fun x hx => hl x (by simp [hx]))]
      obtain ⟨h1, h2⟩ := hl e (by simp)
      by_cases ht : ∃ x ∈ t, (x.1.val = r ∧ x.2.val = c) ∨ (x.1.val = c ∧ x.2.val = r)
      · rw [if_pos ht, if_pos]
        obtain ⟨x, hx, hh⟩ := ht
        exact ⟨x, by simp [hx], hh⟩
      · rw [if_neg ht]
        by_cases he : (e.1.val = r ∧ e.2.val = c) ∨ (e.1.val = c ∧ e.2.val = r)
        · rw [if_pos ⟨e, by simp, he⟩]
          unfold linkOne updI
          by_cases hx : 6 * r + c = 6 * e.2.val + e.1.val
          · rw [if_pos hx]
          · rw [if_neg hx, if_pos (by omega)]
        · rw [if_neg (fun ⟨x, hx, hh⟩ => by
            rcases List.mem_cons.1 hx with rfl | hx
            · exact he hh
            · exact ht ⟨x, hx, hh⟩)]
          unfold linkOne updI
          rw [if_neg (by omega), if_neg (by omega)]
  exact key l _ hl
theorem bitI_if (m b : Nat) : bitI m b = if m.testBit b = true then 1 else 0 := by
  unfold bitI
  rw [Nat.testBit_eq_decide_div_mod_eq]
  by_cases h : m / 2 ^ b % 2 = 1
  · rw [if_pos (by simpa using h), h]; rfl
  · rw [if_neg (by simpa using h)]
    omega
theorem link_adj {xs : List Int} (hg : gIn xs = true) (h6 : xs.length ≤ 6) : rowsOf xs.length (linkF 1 (pairsTo (gfun xs) xs.length xs.length)) = adjOf (gfun xs) xs.length := by
  unfold rowsOf rowOf adjOf
  refine List.map_congr_left fun r hr => List.map_congr_left fun c hc => ?_
  have hr := List.mem_range.1 hr
  have hc := List.mem_range.1 hc
  rw [linkF_at _ (fun e he => by have := pairsTo_mem he; omega) r c (by omega) (by omega), bitI_if]
  by_cases hb : (gfun xs r).testBit c = true
  · rw [if_pos hb, if_pos]
    have hne : r ≠ c := by
      intro e
      subst e
      have := gIn_irr hg ⟨r, by omega⟩
      simp only at this
      rw [this] at hb
      cases hb
    rcases Nat.lt_or_gt_of_ne hne with h | h
    · exact ⟨(⟨r, by omega⟩, ⟨c, by omega⟩), pairs_hold h hc hb hr, .inl ⟨rfl, rfl⟩⟩
    · exact ⟨(⟨c, by omega⟩, ⟨r, by omega⟩), pairs_hold h hr (gIn_both hg hb) hc, .inr ⟨rfl, rfl⟩⟩
  · rw [if_neg hb, if_neg]
    rintro ⟨e, he, ⟨h1, h2⟩ | ⟨h1, h2⟩⟩
    · have := (pairsTo_mem he).2.2.2
      rw [h1, h2] at this
      exact hb this
    · have := (pairsTo_mem he).2.2.2
      rw [h1, h2] at this
      exact hb (gIn_both hg this)

end Go.Proofs.YtjijkgmeddeihaaDoor

/-
  impl.linkTable: a graph's table, edge by edge.
-/
namespace Go.Proofs.YtjijkgmeddeihaaDoor
set_option linter.unusedVariables false
set_option linter.unusedSimpArgs false
open Go.RowKit Go.Shelf
attribute [local go_sem] Oper.semAt_some

/-- What stands when some edges were linked. -/
def LinkI (w : World) (n tb : Nat) (l : List (Fin 8 × Fin 8)) (X : World) : Prop :=
  X.heap[tb]? = some (.cells (tcells n (linkF 1 l)) 46 (0, 0)) ∧ Boxed X (w.heap.size + 1) 3 (.int .i64 1) ∧ X.heap[w.heap.size + 1 + 1]? = some (.cells (tcells 0 fun _ => 0) 46 (0, 0)) ∧ Below w.heap.size w X
theorem linkI_own {w : World} {n tb S : Nat} (h1 : tb < S) (h2 : w.heap.size + 3 ≤ S) : OwnFrom S (fun (pre : List (EdgeIn n)) X => LinkI w n tb (pre.map (·.1)) X) := by
  intro pre X Y row hs hg hr
  obtain ⟨g1, g2, g3, g5⟩ := hs
  have kp : ∀ {b : Nat} {o : Obj}, b < S → X.heap[b]? = some o → Y.heap[b]? = some o := fun {b} {o} hb ho =>
    (hg.block b (Array.getElem?_eq_some_iff.1 ho).1 (fun e => by have := (hr b e.symm).1; omega)).trans ho
  exact ⟨kp h1 g1, kp (by omega) g2, kp (by omega) g3, g5.grown hg g5.size (fun k e => Nat.le_trans (by omega) (hr k e).1)⟩

set_option maxRecDepth 100000 in
set_option maxHeartbeats 4000000 in
theorem linkTable_any (n : Nat) (f : Nat → Nat) (h6 : n ≤ 6) (hf : ∀ i, f i < 2 ^ n) (w : World) (hT : Tab w) :
    Calls Tryd.prog 23 #[.agg (gcells n f), .int .i64 1] w fun e w' => e = .returned (.agg (tcells n (linkF 1 (pairsTo f n n)))) ∧ Below w.heap.size w w' := by
  have HT := Lib.hid hT
  have HF := Lib.hid hf
  obtain ⟨W3, hW3⟩ : ∃ W3, ((w.alloc (.cells (gcells n f) 39)).alloc (.cells #[.int .i64 1] 3)).alloc (.cells (tcells 0 fun _ => 0) 46) = W3 := ⟨_, rfl⟩
  have k1 : W3.heap[w.heap.size]? = some (.cells (gcells n f) 39 (0, 0)) := by
    rw [← hW3]
    rw [Below.heap_alloc _ _ _ (by simp; omega), Below.heap_alloc _ _ _ (by simp)]
    exact World.alloc_heap_new _ _
  have k2 : Boxed W3 (w.heap.size + 1) 3 (.int .i64 1) := by
    rw [← hW3]
    have := (Boxed.new (w.alloc (.cells (gcells n f) 39)) 3 (.int .i64 1)).alloc (.cells (tcells 0 fun _ => 0) 46)
    rwa [World.size_alloc] at this
  have hs3 : W3.heap.size = w.heap.size + 3 := by rw [← hW3]; simp
  have hB3 : Below w.heap.size w W3 := by rw [← hW3]; exact (((Below.refl _ _).alloc (Nat.le_refl _) _).alloc (by simp) _).alloc (by simp; omega) _
  obtain ⟨W4, hW4⟩ : ∃ W4, W3.alloc (.cells (tcells n fun _ => 0) 46) = W4 := ⟨_, rfl⟩
  have hB4 : Below w.heap.size w W4 := by rw [← hW4]; exact hB3.alloc (by omega) _
  have hs4 : W4.heap.size = w.heap.size + 4 := by rw [← hW4]; simp; omega
  have m1 : W4.heap[w.heap.size]? = some (.cells (gcells n f) 39 (0, 0)) := by rw [← hW4, Below.heap_alloc _ _ _ (by omega)]; exact k1
  have m2 : Boxed W4 (w.heap.size + 1) 3 (.int .i64 1) := by rw [← hW4]; exact k2.alloc _
  have m3 : W4.heap[W3.heap.size]? = some (.cells (tcells n fun _ => 0) 46 (0, 0)) := by rw [← hW4]; exact World.alloc_heap_new _ _
  obtain ⟨x0, _, _, _⟩ := graph_cells k1
  have HED := Lib.hid (edges_any n f W4)
  have hm0 : W4.heap[w.heap.size + 1 + 1]? = some (.cells (tcells 0 fun _ => 0) 46 (0, 0)) := by
    rw [← hW4, Below.heap_alloc _ _ _ (by omega), ← hW3]
    have := World.alloc_heap_new ((w.alloc (.cells (gcells n f) 39)).alloc (.cells #[.int .i64 1] 3)) (.cells (tcells 0 fun _ => 0) 46)
    rwa [World.size_alloc, World.size_alloc] at this
  have HM2 := Lib.hid hm0
  clear hm0
  have HM := Lib.hid (And.intro m1 (And.intro m2 (And.intro m3 (And.intro hs3 (And.intro hs4 hB4)))))
  clear hT hf k1 k2 hs3 hB3 hs4 hB4 m2 m3
  refine (callsIn_wide (n := 9)).1 ?_
  refine callsIn_of_wp_marks Tryd.func23 rfl trivial ?_ rfl
  simp only [Tryd.ntmps23, List.size_toArray, List.length_cons, List.length_nil, Nat.reduceAdd, Nat.reduceSub, Array.replicate_succ, Array.replicate_zero, List.push_toArray, List.append_toArray, List.nil_append, List.cons_append]
  gi_wp2_with (first
    | (refine alloc_table_in rfl rfl ?_)
    | (refine build_table_in rfl _ rfl n rfl ?_)
    | (refine store_table_last_in rfl _ _ rfl n (fun _ => 0) _ rfl rfl rfl ?_)
    | (refine load_graph_in rfl _ rfl _ n f rfl m1 ?_)
    | (rw [hW4]; refine load_graph_in rfl _ rfl _ n f rfl m1 ?_)
    | (refine ⟨trivial, ?_⟩; gi_at_call 37; refine (callsIn_wide.2 HED.out).mono ?_; rintro e w' ⟨rfl, rfl⟩))
  obtain ⟨m1', m2, m3, hs3, hs4, hB4⟩ := HM.out
  obtain ⟨W0, hW0⟩ : ∃ W0, W4.alloc (.cells (gcells n f) 39) = W0 := ⟨_, rfl⟩
  have hs0 : W0.heap.size = w.heap.size + 5 := by rw [← hW0]; simp; omega
  have hB0 : Below w.heap.size w W0 := by rw [← hW0]; exact hB4.alloc (by omega) _
  have hg0 : W0.heap[W4.heap.size]? = some (.cells (gcells n f) 39 (0, 0)) := by rw [← hW0]; exact World.alloc_heap_new _ _
  have hI0 : LinkI w n W3.heap.size [] W0 := by
    rw [← hW0]
    exact ⟨(Below.heap_alloc _ _ _ (by omega)).trans m3, m2.alloc _, (Below.heap_alloc _ _ _ (by omega)).trans HM2.out, by rw [hW0]; exact hB0⟩
  have hT0 : Tab W0 := HT.out.later hB0
  have HI0 := Lib.hid hI0
  simp only [hs3, hs4] at HI0 hg0 ⊢
  rw [hW0]
  clear hs3 hs4 hW0 hI0 m1 m1' m2 m3 hB4 hB0 hW3 hW4
  refine wpIn_range_nest rfl (by decide) (gf := 54) (lb := #[.pointer (some ⟨w.heap.size + 4, 0, none⟩)]) rfl trivial (enters_of Tryd.func54 (by kernel_rfl) rfl)
    (edges_stopsB (9 - 1) (by decide) (w.heap.size + 4) w.heap.size n f (by omega) HF.out W0 HT.out.lt (by omega) (by omega) hg0 hT0) (Below.refl _ _) keepsE_t (keepsE_b (by omega) (by omega)) (fun _ => rfl)
    (fun pre X => LinkI w n (w.heap.size + 3) (pre.map (·.1)) X) (fun _ _ _ => False) (linkI_own (by omega) (by omega)) (fun c => ownFrom_pure _ (fun _ => False)) HI0.out
    (fun x => { tmps := #[.agg (gcells n f), .int .i64 1, .pointer (some ⟨w.heap.size, 0, none⟩), .pointer (some ⟨w.heap.size + 1, 0, none⟩), .pointer (some ⟨w.heap.size + 1 + 1, 0, none⟩), .pointer (some ⟨w.heap.size + 3, 0, none⟩), .int .i64 ((x.1.1.val : Nat) : Int), .int .i64 ((x.1.2.val : Nat) : Int), .pointer (some ⟨w.heap.size, 0, none⟩), .int .i64 (n : Int), .agg (tcells n fun _ => 0), .agg (gcells n f), edgesSeq (w.heap.size + 4), .int .i64 ((x.1.1.val : Nat) : Int), .int .i64 ((x.1.2.val : Nat) : Int), undef, undef, undef, undef, undef, undef, undef, undef, undef, undef, undef, undef], defers := [] })
    ?assign ?body ?done ?stop
  case assign =>
    intro l x X K hK
    gi_wp2
    exact hK
  case body =>
    rintro l pre x X ⟨g1, g2, g3, g5⟩ hlen
    obtain ⟨a, ha⟩ : ∃ a, x.1.1.val = a := ⟨_, rfl⟩
    obtain ⟨b, hb⟩ : ∃ b, x.1.2.val = b := ⟨_, rfl⟩
    have hx2 := x.2
    have hab : a < b ∧ b < n := by rw [← ha, ← hb]; exact hx2
    obtain ⟨Fp, hFp⟩ : ∃ Fp, linkF 1 (pre.map (·.1)) = Fp := ⟨_, rfl⟩
    have hsn : linkF 1 ((pre ++ [x]).map (·.1)) = linkOne 1 Fp a b := by rw [map_snoc_val, linkF_snoc, hFp, ha, hb]
    rw [hFp] at g1
    obtain ⟨T, hTT⟩ : ∃ T, w.heap.size + 3 = T := ⟨_, rfl⟩
    rw [hTT] at g1 ⊢
    rw [ha, hb]
    have e1 : 1 + (6 * a + b) = 1 + a * 6 + b := by omega
    have e2 : 1 + (6 * b + a) = 1 + b * 6 + a := by omega
    have s1 := table_stored (w := X.drew) (6 * a + b) 1 (by omega) g1
    rw [e1] at s1
    obtain ⟨X1, hX1⟩ : ∃ X1, X.drew.setCell ⟨T, 1 + a * 6 + b, none⟩ (.int .i64 1) = X1 := ⟨_, rfl⟩
    rw [hX1] at s1
    have s2 := table_stored (w := X1) (6 * b + a) 1 (by omega) s1
    rw [e2] at s2
    obtain ⟨-, p1, p2, plt⟩ := table_cells (w := X.drew) g1
    obtain ⟨-, r1, r2, -⟩ := table_cells s1
    have q1 := p1 (6 * a + b) (by omega)
    have q2 := p2 (1 + a * 6 + b)
    have q3 := r1 (6 * b + a) (by omega)
    rw [e1] at q1
    rw [e2] at q3
    have q5 : X.drew.cell? ⟨w.heap.size + 1, 0, none⟩ = some (.int .i64 1) := g2.cell
    have q6 : X1.cell? ⟨w.heap.size + 1, 0, none⟩ = some (.int .i64 1) := by
      rw [← hX1]
      exact Boxed.cell ((Below.heap_setCell _ _ _ _ (by show w.heap.size + 1 ≠ T; omega)).trans g2)
    have i1 : (a : Int) < 6 := by omega
    have i2 : (b : Int) < 6 := by omega
    have i3 : (0 : Int) ≤ (a : Int) := by omega
    have i4 : (0 : Int) ≤ (b : Int) := by omega
    have hfo : Tryd.prog.follows Departure.mixedOrders = true := by kernel_rfl
    rw [← hX1] at q3 s2
    have q3' : ∃ y, (X.setCell ⟨T, 1 + a * 6 + b, none⟩ (.int .i64 1)).cell? ⟨T, 1 + b * 6 + a, none⟩ = some y := ⟨_, q3⟩
    obtain ⟨y3, q3'⟩ := q3'
    have q4 : X.frozen? ⟨T, 1 + b * 6 + a, none⟩ = false := p2 (1 + b * 6 + a)
    have q6' : (X.drew.setCell ⟨T, 1 + a * 6 + b, none⟩ (.int .i64 1)).cell? ⟨w.heap.size + 1, 0, none⟩ = some (.int .i64 1) := by rw [hX1]; exact q6
    have q7 : ((X.drew.setCell ⟨T, 1 + a * 6 + b, none⟩ (.int .i64 1)).setCell ⟨T, 1 + b * 6 + a, none⟩ (.int .i64 1)).cell? ⟨w.heap.size + 1, 0, none⟩ = some (.int .i64 1) :=
      (World.cell?_of_block (a := ⟨w.heap.size + 1, 0, none⟩) (Below.heap_setCell _ _ _ _ (by show w.heap.size + 1 ≠ T; omega))).trans q6'
    have HG := Lib.hid (And.intro s2 (And.intro g2 (And.intro g3 (And.intro g5 (And.intro hTT (And.intro hsn (And.intro hab (And.intro plt hs0))))))))
    clear s1 s2 g1 g2 g3 g5 hsn ha hb hx2 hFp p1 p2 r1 r2 e1 e2 hTT hab plt hlen q6 hX1 hs0 q3
    gi_wp2
    apply onceIn_zero (fun (W : World) => W = (X.drew.setCell ⟨T, 1 + a * 6 + b, none⟩ (.int .i64 1)).setCell ⟨T, 1 + b * 6 + a, none⟩ (.int .i64 1))
    case h1 =>
      refine region_L_drew (S := fun w6 => w6.cell? ⟨w.heap.size + 1, 0, none⟩ = some (.int .i64 1)) hfo q5 (fun hHeld => ?_)
      refine anyL_take (i := 0) (v := ?v0) (by kernel_rfl) rfl (by kernel_rfl) (by kernel_rfl) (by kernel_rfl) (fun _ _ _ h => h) ⟨Or.inl ⟨by rfl, ?hy0⟩, fun _ => by rfl⟩ (by assumption) ?_
      case hy0 =>
        intro w' hSw
        try dsimp only at hSw
        skip
        go_simp
        try with_reducible rfl
      try simp only [Act.put, List.getElem_toArray, List.getElem_cons_succ, List.getElem_cons_zero, List.setIfInBounds_toArray, List.set_cons_zero, List.set_cons_succ]
      refine anyL_take (i := 1) (v := ?v1) (by kernel_rfl) rfl (by kernel_rfl) (by kernel_rfl) (by kernel_rfl) (fun _ _ _ h => h) ⟨Or.inl ⟨by rfl, ?hy1⟩, fun _ => by rfl⟩ (by assumption) ?_
      case hy1 =>
        intro w' hSw
        try dsimp only at hSw
        skip
        go_simp
        try with_reducible rfl
      try simp only [Act.put, List.getElem_toArray, List.getElem_cons_succ, List.getElem_cons_zero, List.setIfInBounds_toArray, List.set_cons_zero, List.set_cons_succ]
      refine anyL_take (i := 2) (v := ?v2) (by kernel_rfl) rfl (by kernel_rfl) (by kernel_rfl) (by kernel_rfl) (fun _ _ _ h => h) ⟨Or.inl ⟨by rfl, ?hy2⟩, fun _ => by rfl⟩ (by assumption) ?_
      case hy2 =>
        intro w' hSw
        try dsimp only at hSw
        skip
        go_simp
        try with_reducible rfl
      try simp only [Act.put, List.getElem_toArray, List.getElem_cons_succ, List.getElem_cons_zero, List.setIfInBounds_toArray, List.set_cons_zero, List.set_cons_succ]
      refine anyL_take (i := 3) (v := ?v3) (by kernel_rfl) rfl (by kernel_rfl) (by kernel_rfl) (by kernel_rfl) (fun _ _ _ h => h) ⟨Or.inl ⟨by rfl, ?hy3⟩, fun _ => by rfl⟩ (by assumption) ?_
      case hy3 =>
        intro w' hSw
        try dsimp only at hSw
        skip
        go_simp
        try with_reducible rfl
      try simp only [Act.put, List.getElem_toArray, List.getElem_cons_succ, List.getElem_cons_zero, List.setIfInBounds_toArray, List.set_cons_zero, List.set_cons_succ]
      refine anyL_take (i := 4) (v := ?v4) (by kernel_rfl) rfl (by kernel_rfl) (by kernel_rfl) (by kernel_rfl) (fun _ _ _ h => h) ⟨Or.inl ⟨by rfl, ?hy4⟩, fun _ => by rfl⟩ (by assumption) ?_
      case hy4 =>
        intro w' hSw
        try dsimp only at hSw
        skip
        go_simp
        try with_reducible rfl
      try simp only [Act.put, List.getElem_toArray, List.getElem_cons_succ, List.getElem_cons_zero, List.setIfInBounds_toArray, List.set_cons_zero, List.set_cons_succ]
      refine anyL_take (i := 5) (v := ?v5) (by kernel_rfl) rfl (by kernel_rfl) (by kernel_rfl) (by kernel_rfl) (fun _ _ _ h => h) ⟨Or.inl ⟨by rfl, ?hy5⟩, fun _ => by rfl⟩ (by assumption) ?_
      case hy5 =>
        intro w' hSw
        try dsimp only at hSw
        skip
        go_simp
        try with_reducible rfl
      try simp only [Act.put, List.getElem_toArray, List.getElem_cons_succ, List.getElem_cons_zero, List.setIfInBounds_toArray, List.set_cons_zero, List.set_cons_succ]
      refine anyL_take (i := 6) (v := ?v6) (by kernel_rfl) rfl (by kernel_rfl) (by kernel_rfl) (by kernel_rfl) (fun _ _ _ h => h) ⟨Or.inl ⟨by rfl, ?hy6⟩, fun _ => by rfl⟩ (by assumption) ?_
      case hy6 =>
        intro w' hSw
        try dsimp only at hSw
        skip
        go_simp
        try with_reducible rfl
      try simp only [Act.put, List.getElem_toArray, List.getElem_cons_succ, List.getElem_cons_zero, List.setIfInBounds_toArray, List.set_cons_zero, List.set_cons_succ]
      refine anyL_take (i := 7) (v := ?v7) (by kernel_rfl) rfl (by kernel_rfl) (by kernel_rfl) (by kernel_rfl) (fun _ _ _ h => h) ⟨Or.inl ⟨by rfl, ?hy7⟩, fun _ => by rfl⟩ (by assumption) ?_
      case hy7 =>
        intro w' hSw
        try dsimp only at hSw
        skip
        go_simp
        try with_reducible rfl
      try simp only [Act.put, List.getElem_toArray, List.getElem_cons_succ, List.getElem_cons_zero, List.setIfInBounds_toArray, List.set_cons_zero, List.set_cons_succ]
      refine anyL_take (i := 9) (v := ?v9) (by kernel_rfl) rfl (by kernel_rfl) (by kernel_rfl) (by kernel_rfl) (fun _ _ _ h => h) ⟨Or.inl ⟨by rfl, ?hy9⟩, fun _ => by rfl⟩ (by assumption) ?_
      case hy9 =>
        intro w' hSw
        try dsimp only at hSw
        skip
        go_simp
        try with_reducible rfl
      try simp only [Act.put, List.getElem_toArray, List.getElem_cons_succ, List.getElem_cons_zero, List.setIfInBounds_toArray, List.set_cons_zero, List.set_cons_succ]
      refine anyL_take (i := 10) (v := ?v10) (by kernel_rfl) rfl (by kernel_rfl) (by kernel_rfl) (by kernel_rfl) (fun _ _ _ h => h) ⟨Or.inl ⟨by rfl, ?hy10⟩, fun _ => by rfl⟩ (by assumption) ?_
      case hy10 =>
        intro w' hSw
        try dsimp only at hSw
        skip
        go_simp
        try with_reducible rfl
      try simp only [Act.put, List.getElem_toArray, List.getElem_cons_succ, List.getElem_cons_zero, List.setIfInBounds_toArray, List.set_cons_zero, List.set_cons_succ]
      refine anyL_ready (rs := [8]) (by kernel_rfl) (by simp) (AllL.cons rfl (fun K hK => ?_) (AllL.nil))
      · go_simp
        refine hK.out _ _ (q6') (fun hHeld2 => ?_)
        clear hK K
        try simp only [Act.put, List.setIfInBounds_toArray, List.set_cons_zero, List.set_cons_succ]
        refine anyL_take (i := 11) (v := ?v11) (by kernel_rfl) rfl (by kernel_rfl) (by kernel_rfl) (by kernel_rfl) (fun _ _ _ h => h) ⟨Or.inl ⟨by rfl, ?hy11⟩, fun _ => by rfl⟩ (by assumption) ?_
        case hy11 =>
          intro w' hSw
          try dsimp only at hSw
          skip
          go_simp
          try with_reducible rfl
        try simp only [Act.put, List.getElem_toArray, List.getElem_cons_succ, List.getElem_cons_zero, List.setIfInBounds_toArray, List.set_cons_zero, List.set_cons_succ]
        refine anyL_ready (rs := [12]) (by kernel_rfl) (by simp) (AllL.cons rfl (fun K hK => ?_) (AllL.nil))
        · go_simp
          refine hK.out _ _ (q7) (fun hHeld2 => ?_)
          clear hK K
          try simp only [Act.put, List.setIfInBounds_toArray, List.set_cons_zero, List.set_cons_succ]
          refine anyL_done (by kernel_rfl) ?_ _
          exact ⟨rfl, rfl⟩
    rintro W6 hW6
    clear q1 q2 q3' q4 q5 q6' q7
    gi_wp2
    obtain ⟨s2, g2, g3, g5, hTT, hsn, hab, plt, hs0⟩ := HG.out
    rw [← hW6] at s2
    have o6 : ∀ k, k ≠ T → W6.heap[k]? = X.heap[k]? := fun k hk => by
      rw [hW6]
      exact (Below.heap_setCell _ _ _ k hk).trans (Below.heap_setCell _ _ _ k hk)
    have z6 : W6.heap.size = X.heap.size := by rw [hW6]; simp [World.setCell]
    have t1 : W6.os = X.os := by rw [hW6]; rfl
    have t2 : W6.tape = X.tape := by rw [hW6]; rfl
    have t3 : W6.output = X.output := by rw [hW6]; rfl
    have hb6 : Below w.heap.size X W6 := ⟨t1, t2, t3, by omega, fun k hk => o6 k (by omega)⟩
    refine ⟨⟨by omega, fun k o hk ho hn => (o6 k (by omega)).trans ho⟩, ⟨hb6, o6 _ (by omega), fun k c t fr hn hk ht => o6 k (by omega)⟩, ?_⟩
    show LinkI w n T ((pre ++ [x]).map (·.1)) W6
    unfold LinkI
    rw [hsn]
    exact ⟨s2, (o6 _ (by omega)).trans g2, (o6 _ (by omega)).trans g3, g5.trans hb6⟩
  case done =>
    rintro D ys X hD hys ⟨g1, g2, g3, g5⟩ hKD
    rw [hys] at g1
    gi_wp2_with (first
      | (refine load_table_in rfl _ rfl (w.heap.size + 3) n (linkF 1 (pairsTo f n n)) rfl g1 ?_)
      | (refine store_table_in rfl _ _ rfl (w.heap.size + 1 + 1) n (linkF 1 (pairsTo f n n)) rfl rfl 0 (fun _ => 0) g3 ?_))
    have hg7 := heap_setRow_same (c' := tcells n (linkF 1 (pairsTo f n n))) g3
    have hne : D ≠ w.heap.size + 1 + 1 := by omega
    have hKD7 := (heap_setRow_other X (w.heap.size + 1 + 1) D (tcells n (linkF 1 (pairsTo f n n))) hne).trans hKD
    have hb7 : Below w.heap.size w (X.setRow (w.heap.size + 1 + 1) (tcells n (linkF 1 (pairsTo f n n)))) := below_setRow g5 (by omega) _
    refine ⟨by simp, .inl ⟨_, _, rfl, run_takeDeferred hKD7, ?_⟩⟩
    have hg8 : ((X.setRow (w.heap.size + 1 + 1) (tcells n (linkF 1 (pairsTo f n n)))).putObj D (.deferred none)).heap[w.heap.size + 1 + 1]? = some (.cells (tcells n (linkF 1 (pairsTo f n n))) 46 (0, 0)) := (World.putObj_heap_other (by omega)).trans hg7
    exact ⟨.agg (tcells n (linkF 1 (pairsTo f n n))), results_cell_row rfl _ _ (w.heap.size + 1 + 1) 46 (tcells n (linkF 1 (pairsTo f n n))) (0, 0) _ rfl hg8 Tryd.underlying46 rfl (size_tcells n _), rfl, hb7.trans (belowK_b (w := w) (Nat.le_refl _) _ D _ _ (by omega) hKD7 rfl rfl)⟩
  case stop =>
    rintro D c pre X hD hpre h hKD
    exact h.elim

end Go.Proofs.YtjijkgmeddeihaaDoor

