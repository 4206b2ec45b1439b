/-
  impl.GraphDegrees.
-/
import Derived.Test.YthafhcocgohjaabDoorDegrees
import Derived.Test.YthafhcocgohjaabDoorPart1
namespace Go.Proofs.YthafhcocgohjaabDoor
set_option linter.unusedVariables false
set_option linter.unusedSimpArgs false
open Go.RowKit Go.Shelf
attribute [local go_sem] Oper.semAt_some

/-- The degrees as far as node k, of which so many neighbours were met. -/
def dg (f : Nat → Nat) (k c : Nat) : Nat → Nat := fun i => if i < k then degs f i else if i = k then c else 0
theorem dg_step (f : Nat → Nat) (k c : Nat) : upd (dg f k c) k (c + 1) = dg f k (c + 1) := by
  funext i
  unfold upd dg
  by_cases h : i = k
  · subst h; simp
  · simp [h]
theorem dg_next (f : Nat → Nat) (k : Nat) : dg f k (degs f k) = dg f (k + 1) 0 := by
  funext i
  unfold dg
  by_cases h : i < k
  · have : i < k + 1 := by omega
    simp [h, this]
  · by_cases h2 : i = k
    · subst h2; simp
    · have : ¬ i < k + 1 := by omega
      simp [h, h2, this]
theorem dg_zero (f : Nat → Nat) : dg f 0 0 = fun _ => 0 := by funext i; unfold dg; simp
theorem dg_at (f : Nat → Nat) (k c : Nat) : dg f k c k = c := by unfold dg; simp
theorem dg_full (f : Nat → Nat) (n : Nat) : glist n (dg f n 0) = glist n (degs f) := glist_congr (fun i hi => by unfold dg; rw [if_pos hi])
theorem glist_zeros (n : Nat) : vals (glist n (fun _ => 0)) = List.replicate n (Value.int .i64 0) := by
  apply List.ext_getElem
  · simp [glist]
  · intro i h1 h2; simp [glist]

theorem grownBy_setCellAt (W : World) (b k : Nat) (v : Value) : W.grownBy (W.setCell ⟨b, k, none⟩ v) (some b) :=
  ⟨rfl, rfl, rfl, (KeepsWalks.setCell W _ v).size, fun j _ hj => Below.heap_setCell _ _ _ j (fun e => hj (by rw [e]))⟩

/-- At the way out: what is owed to the marks. -/
theorem degrees_leave (w : World) (B : Nat) (n : Nat) (ys : List Int) (tmps : Array Value) (hp2 : tmps[2]? = some (.slice (some ⟨B, 0, none⟩) n n)) (hp3 : tmps[3]? = some (.bool true)) (ds : List Deferred) (W : World)
    (hM : Marks w.heap.size ds W) (hB : Below w.heap.size w W) (ho : W.ownsRow w.heap.size 3 1 (.slice (some ⟨B, 0, none⟩) n n) n (vals ys)) (hl : ys.length = n) :
    bodyPostM Fence.wide 9 Tryd.prog Tryd.f16 (GivesInts w true ys) .ret { tmps := tmps, defers := ds } W := by
  refine leaves_marks (F := Fence.wide) (n := 9) w.heap.size (fun W => Below w.heap.size w W ∧ W.ownsRow w.heap.size 3 1 (.slice (some ⟨B, 0, none⟩) n n) n (vals ys)) ?_ ?_ ds W hM ⟨hB, ho⟩
  · rintro W D hD hk ⟨h1, h2⟩
    exact ⟨below_shut h1 hD hk, ownsRow_putObj h2 _ hk rfl⟩
  · rintro W ⟨h1, h2⟩
    refine ⟨.tuple #[.slice (some ⟨B, 0, none⟩) n n, .bool true], by simp [results, Tryd.f16, go_sem, hp2, hp3], _, rfl, h1, ?_⟩
    rw [← hl] at h2 ⊢
    exact h2

set_option maxRecDepth 100000 in
set_option maxHeartbeats 2000000 in
theorem implDegrees_any (w : World) (u : Value) (xs : List Int) (h : Ints w u xs) (hr : ∀ x ∈ xs, I64 x) (hT : Tab w) :
    Calls Tryd.prog 16 #[u] w (GivesInts w (gIn xs) (degOf xs)) := by
  have hf := from_any w u xs h hr hT
  cases hg : gIn xs with
  | false =>
    have ho : degOf xs = [] := by simp [degOf, hg]
    have hfr : fromOf xs = gcells 0 (fun _ => 0) := by simp [fromOf, hg]
    rw [hg, hfr] at hf
    rw [ho]
    have HF := Lib.hid hf
    clear hf hg ho hfr hT hr h
    go_enter Tryd.func16, Tryd.ntmps16
    go_wp2_with (first
      | (go_at_call 59; refine HF.out.mono ?_; rintro e w1 ⟨rfl, hb1⟩)
      | (refine store_graph_new rfl _ _ rfl 0 (fun _ => 0) rfl rfl ?_))
    go_ret2
    exact ⟨_, rfl, hb1.alloc hb1.size _, World.ownsRow_nil _ _ _ _⟩
  | true =>
    obtain ⟨h1, h8, hok⟩ := gIn_parts hg
    have ho : degOf xs = glist xs.length (degs (gfun xs)) := by simp [degOf, hg]
    have hfr : fromOf xs = gcells xs.length (gfun xs) := by simp [fromOf, hg]
    have hlt := gfun_lt h8 hok
    rw [hg, hfr] at hf
    rw [ho]
    have hmk := fun W => run_make_row' (P := Tryd.prog) 23 3 (.int .i64 0) 8 Tryd.underlying23 infoInt rfl .i64 .i64 xs.length (by omega) (by omega) W
    obtain ⟨f, hff⟩ : ∃ f, gfun xs = f := ⟨_, rfl⟩
    obtain ⟨n, hn⟩ : ∃ n, xs.length = n := ⟨_, rfl⟩
    rw [hff] at hf hlt ⊢
    rw [hn] at hf h1 h8 hmk ⊢
    have HF := Lib.hid hf
    have HL := Lib.hid hlt
    have HT := Lib.hid hT
    clear hf hg ho hfr hT hr h hok hlt hff hn
    refine (callsIn_wide (n := 9)).1 ?_
    refine callsIn_of_wp_marks Tryd.func16 rfl trivial ?_ rfl
    simp only [Tryd.ntmps16, List.size_toArray, List.length_cons, List.length_nil, Nat.reduceAdd, Nat.reduceSub, Array.replicate_succ, Array.replicate_zero, List.push_toArray, List.append_toArray, List.nil_append, List.cons_append]
    gi_wp2_with (first
      | (refine ⟨trivial, ?_⟩; gi_at_call 59; refine (callsIn_wide.2 HF.out).mono ?_; rintro e w1 ⟨rfl, hb1⟩)
      | (refine store_graph_new_in rfl _ _ rfl n f rfl rfl ?_; have g0 := (graph_cells (World.alloc_heap_new w1 (.cells (gcells n f) 53))).1))
    obtain ⟨W1, hW1⟩ : ∃ W1, ((w1.alloc (.cells (gcells n f) 53)).alloc (.cells (madeCells #[.int .i64 0] n) 3)).alloc (.cells #[.slice (some ⟨w1.heap.size + 1, 0, none⟩) n n] 23) = W1 := ⟨_, rfl⟩
    have hs1 := hb1.size
    have hbW : Below w.heap.size w W1 := by rw [← hW1]; exact ((hb1.alloc hs1 _).alloc (by simp; omega) _).alloc (by simp; omega) _
    have hg1 : W1.heap[w1.heap.size]? = some (.cells (gcells n f) 53 (0, 0)) := by
      rw [← hW1, Below.heap_alloc _ _ _ (by simp; omega)]; exact heap_alloc2_old _ _ _
    have hr1 : Boxed W1 (w1.heap.size + 1 + 1) 23 (.slice (some ⟨w1.heap.size + 1, 0, none⟩) n n) := by
      rw [← hW1]
      have := Boxed.new ((w1.alloc (.cells (gcells n f) 53)).alloc (.cells (madeCells #[.int .i64 0] n) 3)) 23 (.slice (some ⟨w1.heap.size + 1, 0, none⟩) n n)
      rwa [World.size_alloc, World.size_alloc] at this
    have ho1 : W1.ownsRow w.heap.size 3 1 (.slice (some ⟨w1.heap.size + 1, 0, none⟩) n n) n (vals (glist n (dg f 0 0))) := by
      rw [← hW1, dg_zero, glist_zeros]
      have := World.ownsRow_lit (base := w.heap.size) (e := 3) (size := 1) (w1.alloc (.cells (gcells n f) 53)) (madeCells #[Value.int .i64 0] n) n (by simp; omega) (by unfold maxLen; omega) (by simp [madeCells])
      rw [toList_madeCells_one, World.size_alloc] at this
      exact this.alloc _
    have hT1 := HT.out.later hbW
    rw [hW1]
    clear hW1 g0 hmk
    refine wpIn_loop (fun a wr => ∃ (k : Nat) (ds : List Deferred) (u7 u21 u22 u23 u24 u25 u26 u27 u28 u29 u30 u31 u32 u33 : Value), k ≤ n ∧ Below w.heap.size w wr ∧ wr.heap[w1.heap.size]? = some (.cells (gcells n f) 53 (0, 0)) ∧
        Boxed wr (w1.heap.size + 1 + 1) 23 (.slice (some ⟨w1.heap.size + 1, 0, none⟩) n n) ∧ wr.ownsRow w.heap.size 3 1 (.slice (some ⟨w1.heap.size + 1, 0, none⟩) n n) n (vals (glist n (dg f k 0))) ∧ Marks w.heap.size ds wr ∧
        a = { tmps := #[u, undef, .slice none 0 0, .bool false, .pointer (some ⟨w1.heap.size, 0, none⟩), .bool true, .pointer (some ⟨w1.heap.size + 1 + 1, 0, none⟩), u7, .tuple #[.agg (gcells n f), .bool true], u, .tuple #[.agg (gcells n f), .bool true], .agg (gcells n f), .bool true, .bool true, .bool false, .pointer (some ⟨w1.heap.size, 0, none⟩), .int .i64 n, .slice (some ⟨w1.heap.size + 1, 0, none⟩) n n, .slice (some ⟨w1.heap.size + 1, 0, none⟩) n n, .int .i64 n, .int .i64 k, u21, u22, u23, u24, u25, u26, u27, u28, u29, u30, u31, u32, u33, undef], defers := ds })
      (fun a _ => n - (intOf (a.tmps.getD 20 undef)).toNat) ⟨0, [], _, _, _, _, _, _, _, _, _, _, _, _, _, _, by omega, hbW, hg1, hr1, ho1, Marks.nil _ _, rfl⟩ ?_
    clear ho1 hg1 hr1 hT1 hbW
    rintro a wr ⟨k, ds, u7, u21, u22, u23, u24, u25, u26, u27, u28, u29, u30, u31, u32, u33, hk, hb, hg, hrb, ho, hM, rfl⟩
    refine round_k (fun K hK => ?_)
    have HK := Lib.hid hK
    have HG := Lib.hid hg
    clear hK hg
    by_cases hlt : k < n
    · have hTr := HT.out.later hb
      have hk8 : (k : Int) < 8 := by omega
      have hlt1 := (Array.getElem?_eq_some_iff.1 HG.out).1
      have hltb := hrb.lt
      have hcr := hrb.cell
      have hob := (ho.lt _ rfl)
      gi_wp2_with (first
        | (refine ⟨trivial, ?_⟩; gi_at_call 60; refine (callsIn_wide.2 (neighbours_any n f k (by omega) _)).mono ?_; rintro e w' ⟨rfl, rfl⟩)
        | (refine load_graph_in rfl _ rfl _ n f rfl ((Below.heap_alloc _ _ _ (by omega)).trans HG.out) ?_))
      obtain ⟨W0, hW0⟩ : ∃ W0, ((wr.alloc (.cells #[.int .i64 (k : Int)] 3)).alloc (.cells (gcells n f) 53)).alloc (.cells #[.int .i64 (f k : Nat)] 50) = W0 := ⟨_, rfl⟩
      have hb0 : Below wr.heap.size wr W0 := by rw [← hW0]; exact (((Below.refl _ _).alloc (Nat.le_refl _) _).alloc (by simp) _).alloc (by simp; omega) _
      have hsz : W0.heap.size = wr.heap.size + 3 := by rw [← hW0]; simp
      have hv0 : Boxed W0 wr.heap.size 3 (.int .i64 (k : Int)) := by
        rw [← hW0]; exact ((Boxed.new wr 3 (.int .i64 (k : Int))).alloc _).alloc _
      have hs0 : W0.heap[wr.heap.size + 1 + 1]? = some (.cells #[.int .i64 (f k : Nat)] 50 (0, 0)) := by
        rw [← hW0]
        have := World.alloc_heap_new ((wr.alloc (.cells #[.int .i64 (k : Int)] 3)).alloc (.cells (gcells n f) 53)) (.cells #[.int .i64 (f k : Nat)] 50)
        rwa [World.size_alloc, World.size_alloc] at this
      have hg0 : W0.heap[w1.heap.size]? = some (.cells (gcells n f) 53 (0, 0)) := (hb0.block _ hlt1).trans HG.out
      have hr0 : Boxed W0 (w1.heap.size + 1 + 1) 23 (.slice (some ⟨w1.heap.size + 1, 0, none⟩) n n) := (hb0.block _ hltb).trans hrb
      have ho0 := owns_below ho hb0
      obtain ⟨cur0, hgb0⟩ : ∃ cur, W0.heap[w1.heap.size + 1]? = some (.cells cur 3 (0, 0)) := by
        rcases ho0.2 with ⟨h, _⟩ | ⟨g, cap, cur, he, _, hgb, _⟩
        · cases h
        · cases he; exact ⟨cur, hgb⟩
      have hM0 := hM.below hb0
      have hbw : Below w.heap.size w W0 := step_below hb hb0
      have hT0 : Tab W0 := hTr.later hb0
      have hwr := hb.size
      rw [hW0]
      clear hW0 hcr
      refine wpIn_rangeFunc_ownF rfl (by decide) (gf := 120) (lb := #[.pointer (some ⟨wr.heap.size + 1 + 1, 0, none⟩)]) rfl trivial (enters_of Tryd.func120 (by kernel_rfl) rfl)
        (all_stops (9 - 1) (by decide) (wr.heap.size + 1 + 1) w.heap.size (f k) (HL.out k) W0 HT.out.lt (by omega) (cell_of_one hs0) hT0) belowK_t (belowK_b (by omega)) (Below.refl _ _) (fun _ => rfl)
        (fun pre W => ((∃ v, Boxed W (w1.heap.size + 1 + 1) 23 v ∧ W.ownsRow w.heap.size 3 1 v n (vals (glist n (dg f k pre.length))) ∧ v = .slice (some ⟨w1.heap.size + 1, 0, none⟩) n n) ∧ W.heap[w1.heap.size]? = some (.cells (gcells n f) 53 (0, 0)) ∧ Boxed W wr.heap.size 3 (.int .i64 (k : Int)) ∧ W.grownBy W none) ∧ Below w.heap.size w W ∧ W0.grownBy W (some (w1.heap.size + 1)))
        (fun _ _ _ => False)
        (OwnFrom.and (Own.from (fun s A B row hs hg hr => ⟨holdsRow_own w.heap.size (w1.heap.size + 1 + 1) 23 3 1 (fun _ => n) (fun pre : List (Fin 8) => vals (glist n (dg f k pre.length))) (fun _ v => v = .slice (some ⟨w1.heap.size + 1, 0, none⟩) n n) s A B row hs.1 hg hr, cells_kept hs.2.1 hg hr, boxed_own wr.heap.size 3 (fun _ => .int .i64 (k : Int)) s A B row hs.2.2.1 hg hr, ⟨rfl, rfl, rfl, Nat.le_refl _, fun _ _ _ => rfl⟩⟩) _) (OwnFrom.and (ownFrom_below (Nat.le_refl _) (by omega)) (ownFrom_grown _)))
        (fun c => ownFrom_pure _ (fun _ => False))
        ⟨⟨⟨_, hr0, ho0, rfl⟩, hg0, hv0, ⟨rfl, rfl, rfl, Nat.le_refl _, fun _ _ _ => rfl⟩⟩, hbw, ⟨rfl, rfl, rfl, Nat.le_refl _, fun _ _ _ => rfl⟩⟩
        (fun x => { tmps := #[u, undef, .slice none 0 0, .bool false, .pointer (some ⟨w1.heap.size, 0, none⟩), .bool true, .pointer (some ⟨w1.heap.size + 1 + 1, 0, none⟩), .pointer (some ⟨wr.heap.size, 0, none⟩), .tuple #[.agg (gcells n f), .bool true], u, .tuple #[.agg (gcells n f), .bool true], .agg (gcells n f), .bool true, .bool true, .bool false, .pointer (some ⟨w1.heap.size, 0, none⟩), .int .i64 n, .slice (some ⟨w1.heap.size + 1, 0, none⟩) n n, .slice (some ⟨w1.heap.size + 1, 0, none⟩) n n, .int .i64 n, .int .i64 k, .bool true, .int .i64 k, .agg (gcells n f), .int .i64 k, seqOf (wr.heap.size + 1 + 1), .int .i64 (x.val : Int), u27, u28, u29, u30, u31, u32, u33, undef], defers := [] })
        ?assign ?body ?done ?stop
      case assign =>
        intro l x W K hK
        gi_wp2
        exact hK
      case body =>
        rintro l pre x W ⟨⟨⟨v, hv, hrow, rfl⟩, hgW, hbx, _⟩, hBW, hGW⟩ hlen
        have hlen8 : pre.length < 8 := Nat.lt_of_lt_of_le hlen (by unfold bitsOf; refine Nat.le_trans (List.length_filter_le _ _) ?_; simp)
        have hcr := hv.cell
        have hcb := hbx.cell
        have hck := (hrow.cellAt k (by omega)).trans (glist_cell n _ k hlt)
        rw [dg_at] at hck
        have hfk := hrow.frozenAt k
        have hst := (hrow.stored k (.int .i64 ((pre.length + 1 : Nat) : Int))).1
        rw [glist_set, dg_step] at hst
        have HST := Lib.hid hst
        have HV := Lib.hid hv
        have HBX := Lib.hid hbx
        have HGW := Lib.hid hgW
        have hki : (k : Int) < (n : Int) := by omega
        have hl8 : (pre.length : Int) < 8 := by omega
        clear hst hv hbx hgW hrow
        gi_wp2
        have e1 : ((pre.length : Int) + 1) = ((pre.length + 1 : Nat) : Int) := by omega
        rw [e1]
        refine ⟨KeepsOthers.setCell _ _ _, (Below.refl _ _).setCell (p := ⟨w1.heap.size + 1, k, none⟩) (by simp; omega) _, ⟨⟨_, (Below.heap_setCell _ _ _ _ (by simp)).trans HV.out, ?_, rfl⟩, (Below.heap_setCell _ _ _ _ (by simp)).trans HGW.out, (Below.heap_setCell _ _ _ _ (by simp; omega)).trans HBX.out, ⟨rfl, rfl, rfl, Nat.le_refl _, fun _ _ _ => rfl⟩⟩, hBW.setCell (p := ⟨w1.heap.size + 1, k, none⟩) (by simp; omega) _, grown_trans hGW (grownBy_setCellAt _ _ _ _)⟩
        rw [List.length_append]
        exact HST.out
      case done =>
        rintro D ys W hD rfl ⟨⟨⟨v, hv, hrow, rfl⟩, hgW, hbx, _⟩, hBW, hGW⟩ hKD
        rw [show (bitsOf (f k)).length = degs f k from rfl, dg_next] at hrow
        have HROW := Lib.hid hrow
        have HV := Lib.hid hv
        have HGW := Lib.hid hgW
        clear hrow hv hgW hbx
        gi_wp2
        refine HK.out _ _ ⟨⟨k + 1, _, _, _, _, _, _, _, _, _, _, _, _, _, _, _, by omega, hBW, HGW.out, HV.out, HROW.out, (hM0.grown hGW hgb0 rfl).cons (Nat.le_trans hbw.size hD) hKD (fun d hd => hM0.lt d hd D hD), rfl⟩, by simp [intOf]; omega⟩
      case stop =>
        rintro D c pre W _ _ h _
        exact h.elim
    · obtain rfl : k = n := by omega
      have hcr := hrb.cell
      rw [dg_full] at ho
      have HO := Lib.hid ho
      have HM := Lib.hid hM
      clear ho hM
      gi_wp2
      exact degrees_leave w (w1.heap.size + 1) k _ _ (by rfl) (by rfl) _ wr HM.out hb HO.out (glist_len _ _)

end Go.Proofs.YthafhcocgohjaabDoor
