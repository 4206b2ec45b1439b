/-
  (graph).leftSide and impl.GraphSides.
-/
import Derived.Test.YthafhcocgohjaabDoorPart1
import Derived.Test.YthafhcocgohjaabDoorNum
import Derived.Outline
namespace Go.Proofs.YthafhcocgohjaabDoor
set_option linter.unusedVariables false
set_option linter.unusedSimpArgs false
open Go.RowKit Go.Shelf
attribute [local go_sem] Oper.semAt_some

theorem low_all : ∀ (m : Fin 256) (v : Fin 8), m.val.testBit v.val = true → (∀ i : Fin 8, i < v → m.val.testBit i.val = false) → low m.val = v := by decide +kernel
theorem low_is {m v : Nat} (hm : m < 256) (hv : v < 8) (h : m.testBit v = true) (hl : ∀ i, m.testBit i = true → v ≤ i) : (low m).val = v := by
  have := low_all ⟨m, hm⟩ ⟨v, hv⟩ h (fun i hi => by
    rw [Bool.eq_false_iff]; intro hb
    have h1 := hl i.val hb
    have h2 : i.val < v := hi
    omega)
  simp only at this
  rw [this]
theorem low_in_all : ∀ m : Fin 256, m.val ≠ 0 → m.val.testBit (low m.val).val = true := by decide +kernel
theorem low_lt {m n : Nat} (hn : n ≤ 8) (hm : m < 2 ^ n) (h0 : m ≠ 0) : (low m).val < n :=
  bit_lt_of_lt_pow hm (low_in_all ⟨m, Nat.lt_of_lt_of_le hm (pow_le_256 hn)⟩ h0)

/-- The left side of the parts so far. -/
def leftL (f : Nat → Nat) (n : Nat) (l : List Nat) : Nat := l.foldl (fun a r => a ||| even f n (low r).val) 0
theorem leftL_snoc (f : Nat → Nat) (n : Nat) (l : List Nat) (r : Nat) : leftL f n (l ++ [r]) = leftL f n l ||| even f n (low r).val := by simp [leftL]
theorem leftL_parts {f : Nat → Nat} {n : Nat} (hf : ∀ i, f i < 2 ^ n) (hn : n ≤ 8) (hsy : SymF f) : ∀ k, k ≤ n → leftL f n (partsTo f n k).1 = leftTo f n k
  | 0, _ => rfl
  | k + 1, hk => by
    have ih := leftL_parts hf hn hsy k (by omega)
    cases hb : (partsTo f n k).2.testBit k with
    | true => rw [partsTo_old hb, leftTo_old hb, ih]
    | false =>
      have hr := reach_is hf hn (v := k) (by omega)
      rw [partsTo_new hb, leftTo_new hb, leftL_snoc, ih, low_is hr.1 (by omega) hr.2.1 (fun i hi => part_lowest hf hn hsy (by omega) hb hi)]
theorem even_lt {f : Nat → Nat} {n v : Nat} (hf : ∀ i, f i < 2 ^ n) (hn : n ≤ 8) (hv : v < n) : even f n v < 256 := (even_is hf hn hv).1
theorem leftL_lt {f : Nat → Nat} {n : Nat} (hf : ∀ i, f i < 2 ^ n) (hn : n ≤ 8) (l : List (PartT n)) : leftL f n (l.map (·.1)) < 256 := by
  have h : ∀ (l : List (PartT n)) (a : Nat), a < 256 → (l.map (·.1)).foldl (fun a r => a ||| even f n (low r).val) a < 256 := by
    intro l
    induction l with
    | nil => intro a ha; exact ha
    | cons x l ih => intro a ha; exact ih _ (or_lt ha (even_lt hf hn (low_lt hn x.2.1 x.2.2)))
  exact h l 0 (by decide)
theorem leftL_val {f : Nat → Nat} {n : Nat} (hf : ∀ i, f i < 2 ^ n) (hn : n ≤ 8) (pre : List (PartT n)) (x : PartT n) :
    bits .or .i64 (leftL f n (pre.map (·.1)) : Int) (even f n (low x.1).val : Int) = (leftL f n ((pre ++ [x]).map (·.1)) : Int) := by
  have h1 := leftL_lt hf hn pre
  have h2 := even_lt hf hn (low_lt hn x.2.1 x.2.2)
  rw [or64 _ _ (by omega) (by omega), List.map_append, List.map_cons, List.map_nil, leftL_snoc]

set_option maxRecDepth 100000 in
set_option maxHeartbeats 1000000 in
theorem leftSide_any (n : Nat) (f : Nat → Nat) (h8 : n ≤ 8) (hf : ∀ i, f i < 2 ^ n) (hsy : SymF f) (w : World) (hT : Tab w) (b : Bool) (hb : decide (arnd f (leftTo f n n) &&& leftTo f n n = 0) = b) :
    Calls Tryd.prog 71 #[.agg (gcells n f)] w fun e w' => e = .returned (.tuple #[.int .i64 ((if b = true then leftTo f n n else 0 : Nat) : Int), .bool b]) ∧ Below w.heap.size w w' := by
  have hp := pow_le_256 h8
  have hf8 : ∀ i, f i < 256 := fun i => Nat.lt_of_lt_of_le (hf i) hp
  have hLend := leftL_parts hf h8 hsy n (Nat.le_refl n)
  have HLE := Lib.hid hLend
  have HT := Lib.hid hT
  have HF := Lib.hid hf
  have HF8 := Lib.hid hf8
  have HB := Lib.hid hb
  clear hT hf hf8 hb hLend hp hsy
  refine (callsIn_wide (n := 9)).1 ?_
  refine callsIn_of_wp_marks Tryd.func71 rfl trivial ?_ rfl
  simp only [Tryd.ntmps71, List.size_toArray, List.length_cons, List.length_nil, Nat.reduceAdd, Nat.reduceSub, Array.replicate_succ, Array.replicate_zero, List.push_toArray, List.append_toArray, List.nil_append, List.cons_append]
  gi_wp2_with (first
    | (refine load_graph_in rfl _ rfl _ n f rfl ((Below.heap_alloc _ _ _ (by simp)).trans (World.alloc_heap_new _ _)) ?_)
    | (refine ⟨trivial, ?_⟩; gi_at_call 70; refine (callsIn_wide.2 (parts_any n f _)).mono ?_; rintro e w' ⟨rfl, rfl⟩))
  obtain ⟨W0, hW0⟩ : ∃ W0, ((w.alloc (.cells (gcells n f) 53)).alloc (.cells #[.int .i64 0] 50)).alloc (.cells (gcells n f) 53) = W0 := ⟨_, rfl⟩
  have hb0 : Below w.heap.size w W0 := by rw [← hW0]; exact (((Below.refl _ _).alloc (Nat.le_refl _) _).alloc (by simp) _).alloc (by simp; omega) _
  have hsz : W0.heap.size = w.heap.size + 3 := by rw [← hW0]; simp
  have hg0 : W0.heap[w.heap.size]? = some (.cells (gcells n f) 53 (0, 0)) := by
    rw [← hW0, Below.heap_alloc _ _ _ (by simp; omega), Below.heap_alloc _ _ _ (by simp)]; exact World.alloc_heap_new _ _
  have hn0 : Boxed W0 (w.heap.size + 1) 50 (.int .i64 0) := by
    rw [← hW0]
    have := Boxed.new (w.alloc (.cells (gcells n f) 53)) 50 (.int .i64 0)
    rw [World.size_alloc] at this
    exact this.alloc _
  have hs0 : W0.heap[w.heap.size + 1 + 1]? = some (.cells (gcells n f) 53 (0, 0)) := by
    rw [← hW0]
    have := World.alloc_heap_new ((w.alloc (.cells (gcells n f) 53)).alloc (.cells #[.int .i64 0] 50)) (.cells (gcells n f) 53)
    rwa [World.size_alloc, World.size_alloc] at this
  have hT0 : Tab W0 := HT.out.later hb0
  rw [hW0]
  clear hW0
  refine wpIn_rangeFunc_ownF rfl (by decide) (gf := 105) (lb := #[.pointer (some ⟨w.heap.size + 1 + 1, 0, none⟩)]) rfl trivial (enters_of Tryd.func105 (by kernel_rfl) rfl)
    (parts_stops (9 - 1) (by decide) (w.heap.size + 1 + 1) w.heap.size n f h8 HF.out W0 HT.out.lt (by omega) hs0 hT0) keepsB_t (keepsB_b (by omega) (by omega)) (Below.refl _ _) (fun _ => rfl)
    (fun pre W => (Boxed W (w.heap.size + 1) 50 (.int .i64 (leftL f n (pre.map (·.1)) : Int)) ∧ W.heap[w.heap.size]? = some (.cells (gcells n f) 53 (0, 0)) ∧ W.heap[w.heap.size + 1 + 1]? = some (.cells (gcells n f) 53 (0, 0))) ∧ Below w.heap.size w W)
    (fun _ _ _ => False)
    (OwnFrom.and (Own.from (fun s A B row hs hg hr => ⟨boxed_own (w.heap.size + 1) 50 (fun pre : List (PartT n) => .int .i64 (leftL f n (pre.map (·.1)) : Int)) s A B row hs.1 hg hr, cells_kept hs.2.1 hg hr, cells_kept hs.2.2 hg hr⟩) _) (ownFrom_below (Nat.le_refl _) (by omega)))
    (fun c => ownFrom_pure _ (fun _ => False))
    ⟨⟨hn0, hg0, hs0⟩, hb0⟩
    (fun x => { tmps := #[.agg (gcells n f), .pointer (some ⟨w.heap.size, 0, none⟩), .int .i64 0, .bool false, .pointer (some ⟨w.heap.size + 1, 0, none⟩), .int .i64 (x.1 : Int), .agg (gcells n f), partsSeq (w.heap.size + 1 + 1), .int .i64 (x.1 : Int), undef, undef, undef, undef, undef, undef, undef, undef, undef, undef, undef], defers := [] })
    ?assign ?body ?done ?stop
  case assign =>
    intro l x W K hK
    gi_wp2
    exact hK
  case body =>
    rintro l pre x W ⟨⟨hbx, hg, hgi⟩, hbW⟩ _
    have hx256 := Nat.lt_of_lt_of_le x.2.1 (pow_le_256 h8)
    have hlow := low_lt h8 x.2.1 x.2.2
    have hv := leftL_val HF.out h8 pre x
    have hev := even_is HF.out h8 hlow
    obtain ⟨a1, ha1⟩ : ∃ a, leftL f n (pre.map (·.1)) = a := ⟨_, rfl⟩
    obtain ⟨a2, ha2⟩ : ∃ a, leftL f n ((pre ++ [x]).map (·.1)) = a := ⟨_, rfl⟩
    obtain ⟨a3, ha3⟩ : ∃ a, even f n (low x.1).val = a := ⟨_, rfl⟩
    rw [ha1, ha2, ha3] at hv
    rw [ha1] at hbx
    rw [ha3] at hev
    have HA2 := Lib.hid ha2
    have HLO := Lib.hid (fun W (h : Tab W) => lowest_any x.1 hx256 x.2.2 W h)
    have HEV := Lib.hid (fun W (h : Tab W) => evenFrom_any n f HF8.out (low x.1).val (low x.1).isLt a3 hev W h)
    have HTW := Lib.hid (HT.out.later hbW)
    obtain ⟨c0, cs, _, hlt1⟩ := graph_cells hg
    have c1 := cs 0 (by decide)
    have c2 := cs 1 (by decide)
    have c3 := cs 2 (by decide)
    have c4 := cs 3 (by decide)
    have c5 := cs 4 (by decide)
    have c6 := cs 5 (by decide)
    have c7 := cs 6 (by decide)
    have c8 := cs 7 (by decide)
    have hcr := hbx.cell
    have hfr := hbx.frozen
    have hltb := hbx.lt
    have hlti := (Array.getElem?_eq_some_iff.1 hgi).1
    have hfo : Tryd.prog.follows Departure.mixedOrders = true := by kernel_rfl
    have HG := Lib.hid hg
    have HGI := Lib.hid hgi
    have HBX := Lib.hid hbx
    have HBW := Lib.hid hbW
    clear cs hg hgi hbx hbW hev hx256 ha1 ha2 ha3
    gi_wp2
    gi_region_with_o (first
      | (refine ⟨trivial, ?_⟩; gi_at_call 108; refine (CallsIn.inRound l (callsIn_wide.2 (HLO.out _ (by exact HTW.out)))).mono ?_; rintro e w' ⟨rfl, rfl⟩)
      | (gi_at_call 108; refine (CallsIn.inRound l (callsIn_wide.2 (HLO.out _ (by exact HTW.out)))).mono ?_; rintro e w' ⟨rfl, rfl⟩)
      | (refine ⟨trivial, ?_⟩; gi_at_call 107; refine (CallsIn.inRound l (callsIn_wide.2 (HEV.out _ (by exact HTW.out)))).mono ?_; rintro e w2 ⟨rfl, hb2⟩; have hcr2 := (hb2.cell (p := ⟨w.heap.size + 1, 0, none⟩) (by exact hltb)).trans hcr; have hfr2 := (hb2.frozen (p := ⟨w.heap.size + 1, 0, none⟩) (by exact hltb)).trans hfr)
      | (gi_at_call 107; refine (CallsIn.inRound l (callsIn_wide.2 (HEV.out _ (by exact HTW.out)))).mono ?_; rintro e w2 ⟨rfl, hb2⟩; have hcr2 := (hb2.cell (p := ⟨w.heap.size + 1, 0, none⟩) (by exact hltb)).trans hcr; have hfr2 := (hb2.frozen (p := ⟨w.heap.size + 1, 0, none⟩) (by exact hltb)).trans hfr))
    all_goals gi_wp2
    all_goals (
      have hb3 : Below W.heap.size W w2 := by first | exact hb2 | exact (Below.refl W.heap.size W).drew.trans hb2
      have hk : KeepsOthers W w2 := KeepsOthers.of_grownBy (row := none) (grown_of_below hb3) (fun _ _ e => by cases e)
      have hle3 : w.heap.size ≤ W.heap.size := by omega
      have hbw : Below w.heap.size W w2 := hb3.mono hle3
      have hK1 := hk.trans (KeepsOthers.setCell w2 ⟨w.heap.size + 1, 0, none⟩ (.int .i64 (a2 : Int)))
      have hB1 := hbw.setCell (p := ⟨w.heap.size + 1, 0, none⟩) (by simp) (.int .i64 (a2 : Int))
      have hX1 := Boxed.set (.int .i64 (a2 : Int)) ((hb3.block _ hltb).trans HBX.out)
      have hG1 := (Below.heap_setCell w2 ⟨w.heap.size + 1, 0, none⟩ (.int .i64 (a2 : Int)) _ (by simp)).trans ((hb3.block _ hlt1).trans HG.out)
      have hI1 := (Below.heap_setCell w2 ⟨w.heap.size + 1, 0, none⟩ (.int .i64 (a2 : Int)) _ (by simp)).trans (hb3.block _ hlti)
      first
        | exact ⟨hK1, ⟨hB1, hI1⟩, ⟨⟨by rw [HA2.out]; exact hX1, hG1, hI1.trans HGI.out⟩, HBW.out.trans hB1⟩⟩
        | exact ⟨hK1.trans (KeepsOthers.drew _), ⟨hB1.drew, hI1⟩, ⟨⟨by rw [HA2.out]; exact hX1, hG1, hI1.trans HGI.out⟩, (HBW.out.trans hB1).drew⟩⟩)
  case done =>
    rintro D ys W hD hys ⟨⟨hbx, hg, hgi⟩, hbW⟩ hKD
    have hle := HLE.out
    rw [← hys] at hle
    rw [hle] at hbx
    obtain ⟨hl1, _⟩ := leftTo_facts HF.out h8 n (Nat.le_refl n)
    obtain ⟨L, hL⟩ : ∃ L, leftTo f n n = L := ⟨_, rfl⟩
    have hbb := HB.out
    rw [hL] at hbx hl1 hbb
    have HL := Lib.hid hL
    have hTW := HT.out.later hbW
    have HFR := Lib.hid (isFree_any n f HF8.out L hl1 b hbb W hTW)
    have hltb := hbx.lt
    have hcr := hbx.cell
    have HG := Lib.hid hg
    have HK := Lib.hid hKD
    have HBX := Lib.hid hbx
    clear hle hys hgi hg hL hbb hTW hbx hKD
    have hput : ∀ (W' : World), Below W.heap.size W W' → Below w.heap.size w (W'.putObj D (.deferred none)) := fun W' h =>
      have hD' : D < W.heap.size := (Array.getElem?_eq_some_iff.1 HK.out).1
      (step_below hbW h).trans (belowK_b (w := w) (Nat.le_refl _) W' D _ _ (by omega) ((h.block D hD').trans HK.out) rfl rfl)
    cases b with
    | true =>
      gi_wp2_with (first
        | (refine load_graph_in rfl _ rfl _ n f rfl HG.out ?_)
        | (refine ⟨trivial, ?_⟩; gi_at_call 109; refine (callsIn_wide.2 HFR.out).mono ?_; rintro e w2 ⟨rfl, hb2⟩; have hcr2 := (hb2.cell (p := ⟨w.heap.size + 1, 0, none⟩) (by exact hltb)).trans hcr))
      have hD' : D < W.heap.size := (Array.getElem?_eq_some_iff.1 HK.out).1
      refine ⟨by simp, .inl ⟨_, _, rfl, run_takeDeferred ((hb2.block D hD').trans HK.out), ?_⟩⟩
      exact ⟨.tuple #[.int .i64 (L : Int), .bool true], by simp [results, Tryd.f71, go_sem], by rw [HL.out], hput _ hb2⟩
    | false =>
      gi_wp2_with (first
        | (refine load_graph_in rfl _ rfl _ n f rfl HG.out ?_)
        | (refine ⟨trivial, ?_⟩; gi_at_call 109; refine (callsIn_wide.2 HFR.out).mono ?_; rintro e w2 ⟨rfl, hb2⟩; have hcr2 := (hb2.cell (p := ⟨w.heap.size + 1, 0, none⟩) (by exact hltb)).trans hcr))
      have hD' : D < W.heap.size := (Array.getElem?_eq_some_iff.1 HK.out).1
      refine ⟨by simp, .inl ⟨_, _, rfl, run_takeDeferred ((hb2.block D hD').trans HK.out), ?_⟩⟩
      exact ⟨.tuple #[.int .i64 0, .bool false], by simp [results, Tryd.f71, go_sem], by first | rfl | simp, hput _ hb2⟩
  case stop =>
    rintro D c pre W _ _ h _
    exact h.elim


/-- Whether a list is a graph with sides, and its left side. -/
def sideOk (xs : List Int) : Bool := gIn xs && decide (arnd (gfun xs) (leftTo (gfun xs) xs.length xs.length) &&& leftTo (gfun xs) xs.length xs.length = 0)
def sideOf (xs : List Int) : Int := if sideOk xs = true then (leftTo (gfun xs) xs.length xs.length : Int) else 0

set_option maxRecDepth 100000 in
set_option maxHeartbeats 1000000 in
theorem implSides_any (w : World) (u : Value) (xs : List Int) (h : Ints w u xs) (hr : ∀ x ∈ xs, I64 x) (hT : Tab w) (hsy : gIn xs = true → SymF (gfun xs)) :
    Calls Tryd.prog 28 #[u] w (GivesNum w (sideOk xs) (sideOf xs)) := by
  have hf := from_any w u xs h hr hT
  cases hg : gIn xs with
  | false =>
    have hk : sideOk xs = false := by simp [sideOk, hg]
    have ho : sideOf xs = 0 := by simp [sideOf, hk]
    have hfr : fromOf xs = gcells 0 (fun _ => 0) := by simp [fromOf, hg]
    rw [hg, hfr] at hf
    rw [ho, hk]
    have HF := Lib.hid hf
    clear hf hg ho hfr hT hr h hk hsy
    go_enter Tryd.func28, Tryd.ntmps28
    go_wp2_with (first
      | (go_at_call 59; refine HF.out.mono ?_; rintro e w1 ⟨rfl, hb1⟩)
      | (refine store_graph_new rfl _ _ rfl 0 (fun _ => 0) rfl rfl ?_))
    go_ret2
    exact ⟨rfl, hb1.alloc hb1.size _⟩
  | true =>
    obtain ⟨h1, h8, hok⟩ := gIn_parts hg
    have hfr : fromOf xs = gcells xs.length (gfun xs) := by simp [fromOf, hg]
    have hpw := gfun_pow hok
    have hs := hsy hg
    rw [hg, hfr] at hf
    have hk : sideOk xs = decide (arnd (gfun xs) (leftTo (gfun xs) xs.length xs.length) &&& leftTo (gfun xs) xs.length xs.length = 0) := by simp [sideOk, hg]
    have hleft := fun W (hW : Tab W) => leftSide_any xs.length (gfun xs) h8 hpw hs W hW (sideOk xs) hk.symm
    have ho : ((if sideOk xs = true then leftTo (gfun xs) xs.length xs.length else 0 : Nat) : Int) = sideOf xs := by unfold sideOf; split <;> rfl
    rw [ho] at hleft
    have HF := Lib.hid hf
    have HL := Lib.hid hleft
    have HT := Lib.hid hT
    clear hf hg ho hfr hT hr h hok hpw hk hsy hs hleft
    obtain ⟨bb, hbb⟩ : ∃ bb, sideOk xs = bb := ⟨_, rfl⟩
    obtain ⟨ss, hss⟩ : ∃ ss, sideOf xs = ss := ⟨_, rfl⟩
    rw [hbb, hss] at HL ⊢
    clear hbb hss
    go_enter Tryd.func28, Tryd.ntmps28
    go_wp2_with (first
      | (go_at_call 59; refine HF.out.mono ?_; rintro e w1 ⟨rfl, hb1⟩)
      | (refine store_graph_new rfl _ _ rfl xs.length (gfun xs) rfl rfl ?_)
      | (refine load_graph rfl _ rfl _ xs.length (gfun xs) rfl (World.alloc_heap_new _ _) ?_)
      | (go_at_call 71; refine (HL.out _ (HT.out.later (hb1.alloc hb1.size _))).mono ?_; rintro e w2 ⟨rfl, hb2⟩))
    go_ret2
    exact ⟨rfl, step_below (hb1.alloc hb1.size _) hb2⟩

end Go.Proofs.YthafhcocgohjaabDoor
