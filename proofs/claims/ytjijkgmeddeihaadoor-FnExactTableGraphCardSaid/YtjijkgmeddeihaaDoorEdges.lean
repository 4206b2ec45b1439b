/-
  (graph).edges: THE ITERATOR OVER A GRAPH's EDGES; it ranges over the neighbours of each node.
-/
import Derived.Test.YtjijkgmeddeihaaDoorNest
import Derived.Test.YtjijkgmeddeihaaDoorNeigh
import Derived.Test.YtjijkgmeddeihaaDoorGraphsIn
import Derived.Test.YtjijkgmeddeihaaDoorMutual
import Derived.Test.YtjijkgmeddeihaaDoorPairs
import Derived.Test.YtjijkgmeddeihaaDoorAround
namespace Go.Proofs.YtjijkgmeddeihaaDoor
set_option linter.unusedVariables false
set_option linter.unusedSimpArgs false
open Go.RowKit Go.Shelf
attribute [local go_sem] Oper.semAt_some

/-- Cells of whatever type but the rows of lists lie as they lay, from n on. -/
def KeepsT (n : Nat) (W W' : World) : Prop := ∀ k c t fr, n ≤ k → W.heap[k]? = some (.cells c t fr) → t ≠ 22 → W'.heap[k]? = W.heap[k]?
theorem KeepsT.refl (n : Nat) (W : World) : KeepsT n W W := fun _ _ _ _ _ _ _ => rfl
theorem keepsT_t {n : Nat} {A B C : World} (h : KeepsT n A B) (k : KeepsT n B C) : KeepsT n A C := fun i c t fr hn hi ht => by
  have h1 := h i c t fr hn hi ht
  exact (k i c t fr hn (h1.trans hi) ht).trans h1
theorem keepsT_put (n l : Nat) (W : World) (o o' : Obj) (h : W.heap[l]? = some o) (hc : o.isCells = false) : KeepsT n W (W.putObj l o') := fun k c t fr _ hk _ =>
  World.putObj_heap_other (fun e => by subst e; rw [h] at hk; cases hk; cases hc)
/-- What a round over a graph's edges keeps. -/
def KeepsE (n₀ Bg n : Nat) (W W' : World) : Prop := Below n₀ W W' ∧ W'.heap[Bg]? = W.heap[Bg]? ∧ KeepsT n W W'
theorem keepsE_t {n₀ Bg n : Nat} {A B C : World} (h : KeepsE n₀ Bg n A B) (k : KeepsE n₀ Bg n B C) : KeepsE n₀ Bg n A C := ⟨h.1.trans k.1, k.2.1.trans h.2.1, keepsT_t h.2.2 k.2.2⟩
theorem keepsE_b {n₀ Bg n : Nat} {w : World} (hn : n₀ ≤ w.heap.size) (hB : Bg < w.heap.size) (W : World) (o o' : Obj) (h : W.heap[w.heap.size + 1]? = some o) (hc : o.isCells = false) (hw : o.isWalk = false) : KeepsE n₀ Bg n W (W.putObj (w.heap.size + 1) o') :=
  ⟨belowK_b (w := w) hn W _ o o' (by omega) h hc hw, World.putObj_heap_other (by omega), keepsT_put _ _ _ _ _ h hc⟩

theorem round_turn {m m' : Nat} {P : Program} {l : Nat} {f : FuncId} {tmps : Array Value} {assign body : Code} {w : World} {R : Ending → World → Prop} (l' : Nat)
    (h : RoundIn Fence.wide m P l f tmps assign body w R) : RoundIn (Fence.wide.inRound l') m' P l f tmps assign body w R := ⟨trivial, fun c cs _ => h.2 c cs (fun d h => by cases h)⟩

/-- The edges of a node to the greater ones among some. -/
def selE (k : Fin 8) (l : List (Fin 8)) : List (Fin 8 × Fin 8) := (l.filter fun x => decide (k.val < x.val)).map fun b => (k, b)
theorem selE_nil (k : Fin 8) : selE k [] = [] := rfl
theorem selE_snoc (k : Fin 8) (l : List (Fin 8)) (x : Fin 8) : selE k (l ++ [x]) = if k.val < x.val then selE k l ++ [(k, x)] else selE k l := by
  unfold selE
  rw [List.filter_append, List.map_append]
  by_cases h : k.val < x.val
  · rw [if_pos h]; simp [h]
  · rw [if_neg h]; simp [h]
theorem selE_len (k : Fin 8) (l : List (Fin 8)) : (selE k l).length ≤ l.length := by
  unfold selE; rw [List.length_map]; exact List.length_filter_le _ _
theorem selE_all {f : Nat → Nat} {m : Nat} (hf : ∀ i, f i < 2 ^ m) (k : Nat) (hk : k < 8) : pairsTo f m (k + 1) = pairsTo f m k ++ selE ⟨k, hk⟩ (bitsOf (f k)) := by
  rw [pairsTo_succ hk, upTo_full (hf k)]; rfl
theorem pairsTo_up (f : Nat → Nat) (m : Nat) {k k' : Nat} (h : k ≤ k') : pairsTo f m k <+: pairsTo f m k' := by
  induction k' with
  | zero => obtain rfl : k = 0 := by omega
            exact List.prefix_refl _
  | succ k' ih =>
    by_cases e : k = k' + 1
    · subst e; exact List.prefix_refl _
    · refine (ih (by omega)).trans ?_
      rw [pairsTo.eq_2]
      split
      · exact List.prefix_append _ _
      · exact List.prefix_refl _
theorem selE_prefix {k : Fin 8} {p l : List (Fin 8)} (h : p <+: l) : selE k p <+: selE k l := by
  obtain ⟨t, rfl⟩ := h
  unfold selE
  rw [List.filter_append, List.map_append]
  exact List.prefix_append _ _

theorem Marks.keeps {B : Nat} {ds : List Deferred} {W W' : World} (h : Marks B ds W) (hk : KeepsFrom B W W') : Marks B ds W' := by
  obtain ⟨Ds, h1, h2, h3⟩ := h
  exact ⟨Ds, h1, h2, fun D hD => ⟨(h3 D hD).1, hk.same D _ (h3 D hD).1 (h3 D hD).2 rfl⟩⟩

theorem edges_leave (w : World) (R : World → Prop) (hR : ∀ W D, w.heap.size ≤ D → W.heap[D]? = some (.deferred (some [])) → R W → R (W.putObj D (.deferred none))) (tmps : Array Value) (ds : List Deferred) (W : World)
    (hM : Marks w.heap.size ds W) (hW : R W) (n : Nat) :
    bodyPostM Fence.wide n Tryd.prog Tryd.f54 (fun e w' => (∃ v, e = .returned v) ∧ R w') .ret { tmps := tmps, defers := ds } W := by
  refine leaves_marks (F := Fence.wide) (n := n) w.heap.size R hR ?_ ds W hM hW
  intro W h1
  exact ⟨_, by simp [results, Tryd.f54, go_sem]; rfl, ⟨_, rfl⟩, h1⟩

set_option maxRecDepth 100000 in
set_option maxHeartbeats 4000000 in
theorem edges1_in (n : Nat) (hn : 3 ≤ n) (l Bg n₀ n₂ : Nat) (m : Nat) (f : Nat → Nat) (h8 : m ≤ 8) (hf : ∀ i, f i < 2 ^ m) (hn₀ : 1 < n₀) (J Jx : List (Fin 8 × Fin 8) → World → Prop)
    (W : World) (hJ : OwnFrom W.heap.size J) (hJx : OwnFrom W.heap.size Jx) (hnW : n₀ ≤ W.heap.size) (hn2 : n₂ ≤ W.heap.size)
    (hY : ∀ pre x W1, J pre W1 → pre.length < 64 → YieldAt Fence.wide (n - 1) Tryd.prog l #[.int .i64 ((x : Fin 8 × Fin 8).1.val : Int), .int .i64 (x.2.val : Int)] W1 fun e W' => KeepsFrom W.heap.size W1 W' ∧
      ((e = .returned (.bool true) ∧ J (pre ++ [x]) W' ∧ KeepsE n₀ Bg n₂ W1 W') ∨ (e = .returned (.bool false) ∧ Jx (pre ++ [x]) W')))
    (hBn : W.heap[Bg]? = some (.cells (gcells m f) 39 (0, 0))) (hT : Tab W) (h0 : J [] W) :
    CallsIn Fence.wide n Tryd.prog 54 #[.func (.yield l) #[] #[], .pointer (some ⟨Bg, 0, none⟩)] W fun e W' => (∃ v, e = .returned v) ∧
      ((∃ ys, ys = pairsTo f m m ∧ J ys W') ∨ (∃ pre, pre <+: pairsTo f m m ∧ Jx pre W')) := by
  have hp8 := pow8_le (v := m) (by omega)
  have hf8 : ∀ i, f i < 256 := fun i => Nat.lt_of_lt_of_le (hf i) hp8
  have HF := Lib.hid hf
  have HF8 := Lib.hid hf8
  have HY := Lib.hid hY
  have HJ := Lib.hid hJ
  have HJX := Lib.hid hJx
  have hBW := (Array.getElem?_eq_some_iff.1 hBn).1
  obtain ⟨c0, _, _, _⟩ := graph_cells hBn
  refine callsIn_of_wp_marks Tryd.func54 rfl trivial ?_ rfl
  simp only [Tryd.ntmps54, List.size_toArray, List.length_cons, List.length_nil, Nat.reduceAdd, Nat.reduceSub, Array.replicate_succ, Array.replicate_zero, List.push_toArray, List.append_toArray, List.nil_append, List.cons_append]
  clear hf hf8 hp8 hY hJ hJx
  gi_wp2
  clear c0
  obtain ⟨Wb, hWb⟩ : ∃ Wb, W.alloc (.cells #[.func (.yield l) #[] #[]] 68) = Wb := ⟨_, rfl⟩
  have hbb : Below n₀ W Wb := by rw [← hWb]; exact (Below.refl _ _).alloc hnW _
  have hyb : Boxed Wb W.heap.size 68 (.func (.yield l) #[] #[]) := by rw [← hWb]; exact Boxed.new _ _ _
  have hgb : Wb.heap[Bg]? = some (.cells (gcells m f) 39 (0, 0)) := by rw [← hWb]; exact (Below.heap_alloc _ _ _ hBW).trans hBn
  have hJb : J [] Wb := by rw [← hWb]; exact HJ.out.alloc _ h0
  have hsb : W.heap.size < Wb.heap.size := by rw [← hWb]; simp
  rw [hWb]
  clear hWb h0 hBn
  refine wpIn_loop (fun a wr => ∃ (k : Nat) (ds : List Deferred) (u3 u4 u8 u9 u10 u11 u12 u13 u14 u15 u16 u17 u18 u19 u20 u21 u22 u23 u24 : Value), k ≤ m ∧ J (pairsTo f m k) wr ∧ Below n₀ W wr ∧ wr.heap[Bg]? = some (.cells (gcells m f) 39 (0, 0)) ∧ Boxed wr W.heap.size 68 (.func (.yield l) #[] #[]) ∧
      W.heap.size < wr.heap.size ∧ Marks W.heap.size ds wr ∧
      a = { tmps := #[.func (.yield l) #[] #[], .pointer (some ⟨Bg, 0, none⟩), .pointer (some ⟨W.heap.size, 0, none⟩), u3, u4, .pointer (some ⟨Bg, 0, none⟩), .int .i64 m, .int .i64 k, u8, u9, u10, u11, u12, u13, u14, u15, u16, u17, u18, u19, u20, u21, u22, u23, u24], defers := ds })
    (fun a _ => m - (intOf (a.tmps.getD 7 undef)).toNat) ⟨0, [], _, _, _, _, _, _, _, _, _, _, _, _, _, _, _, _, _, _, _, by omega, hJb, hbb, hgb, hyb, hsb, Marks.nil _ _, rfl⟩ ?_
  rintro a wr ⟨k, ds, u3, u4, u8, u9, u10, u11, u12, u13, u14, u15, u16, u17, u18, u19, u20, u21, u22, u23, u24, hk, hJr, hb, hg, hy, hsz, hM, rfl⟩
  refine round_k (fun K hK => ?_)
  have HK := Lib.hid hK
  have HG := Lib.hid hg
  have HJR := Lib.hid hJr
  clear hK hg hJr hgb hJb hyb hbb hsb
  have hTr := hT.below hb hn₀
  by_cases hlt : k < m
  · have hk8 : (k : Int) < 8 := by omega
    have HT := Lib.hid hTr
    clear hTr
    have hlt1 := (Array.getElem?_eq_some_iff.1 HG.out).1
    gi_wp2_with (first
      | (refine ⟨trivial, fun _ => by omega, ?_⟩; gi_at_call 55; refine (callsIn_wide.2 (neighbours_any m f k (by omega) _)).mono ?_; rintro e w' ⟨rfl, rfl⟩)
      | (refine load_graph_in rfl _ rfl _ m f rfl ((Below.heap_alloc _ _ _ (by omega)).trans HG.out) ?_))
    obtain ⟨W0, hW0⟩ : ∃ W0, ((wr.alloc (.cells #[.int .i64 (k : Int)] 3)).alloc (.cells (gcells m f) 39)).alloc (.cells #[.int .i64 (f k : Nat)] 36) = W0 := ⟨_, rfl⟩
    have hb0 : Below wr.heap.size wr W0 := by rw [← hW0]; exact (((Below.refl _ _).alloc (Nat.le_refl _) _).alloc (by simp) _).alloc (by simp; omega) _
    have hsz0 : W0.heap.size = wr.heap.size + 3 := by rw [← hW0]; simp
    have hv0 : Boxed W0 wr.heap.size 3 (.int .i64 (k : Int)) := by
      rw [← hW0]; exact ((Boxed.new wr 3 (.int .i64 (k : Int))).alloc _).alloc _
    have hs0 : W0.heap[wr.heap.size + 1 + 1]? = some (.cells #[.int .i64 (f k : Nat)] 36 (0, 0)) := by
      rw [← hW0]
      have := World.alloc_heap_new ((wr.alloc (.cells #[.int .i64 (k : Int)] 3)).alloc (.cells (gcells m f) 39)) (.cells #[.int .i64 (f k : Nat)] 36)
      rwa [World.size_alloc, World.size_alloc] at this
    have hg0 : W0.heap[Bg]? = some (.cells (gcells m f) 39 (0, 0)) := (hb0.block _ hlt1).trans HG.out
    have hy0 : Boxed W0 W.heap.size 68 (.func (.yield l) #[] #[]) := (hb0.block _ hsz).trans hy
    have hM0 := hM.below hb0
    have hsw : W.heap.size ≤ wr.heap.size := by omega
    have hbn : Below n₀ wr W0 := hb0.mono (by omega)
    have hT0 : Tab W0 := HT.out.below hbn hn₀
    have hJ0 : J (pairsTo f m k) W0 := by rw [← hW0]; exact HJ.out.alloc _ (HJ.out.alloc _ (HJ.out.alloc _ HJR.out))
    rw [hW0]
    clear hW0
    have hkl : k < 8 := by omega
    refine wpIn_rangeFunc_ownG rfl (by omega) (gf := 62) (lb := #[.pointer (some ⟨wr.heap.size + 1 + 1, 0, none⟩)]) rfl trivial (enters_of Tryd.func62 (by kernel_rfl) rfl)
      (all_stops (n - 1) (by omega) (wr.heap.size + 1 + 1) n₀ (f k) (HF8.out k) W0 hn₀ (by omega) (cell_of_one hs0) hT0) belowK_t (belowK_b (w := W0) (by omega)) (Below.refl _ _) (fun _ => rfl)
      (fun pre X => J (pairsTo f m k ++ selE ⟨k, hkl⟩ pre) X ∧ KeepsFrom W.heap.size W0 X ∧ Boxed X W.heap.size 68 (.func (.yield l) #[] #[]) ∧ Boxed X wr.heap.size 3 (.int .i64 (k : Int)) ∧ X.heap[Bg]? = some (.cells (gcells m f) 39 (0, 0)) ∧ Below n₀ W0 X)
      (fun c pre X => (c = .ret ∧ Jx (pairsTo f m k ++ selE ⟨k, hkl⟩ pre) X) ∧ KeepsFrom W.heap.size W0 X)
      (OwnFrom.and (ownFrom_mono (fun s X Y row hs hg hr => HJ.out _ X Y row hs hg hr) (by omega)) (OwnFrom.and (ownFrom_keepsFrom (by omega)) (OwnFrom.and (Own.from (boxed_own _ _ _) _) (OwnFrom.and (Own.from (boxed_own _ _ _) _) (OwnFrom.and (Own.from (fun _ _ _ _ hs hg hr => cells_kept hs hg hr) _) (ownFrom_below (by omega) (by omega)))))))
      (fun c => OwnFrom.and (fun s X Y row hs hg hr => ⟨hs.1, ownFrom_mono (I := Jx) HJX.out (by omega) _ X Y row hs.2 hg hr⟩) (ownFrom_keepsFrom (by omega)))
      ⟨by rw [selE_nil, List.append_nil]; exact hJ0, KeepsFrom.refl _ _, hy0, hv0, hg0, Below.refl _ _⟩
      (fun x => { tmps := #[.func (.yield l) #[] #[], .pointer (some ⟨Bg, 0, none⟩), .pointer (some ⟨W.heap.size, 0, none⟩), .pointer (some ⟨wr.heap.size, 0, none⟩), .int .i64 (x.val : Int), .pointer (some ⟨Bg, 0, none⟩), .int .i64 m, .int .i64 k, .bool true, .int .i64 k, .agg (gcells m f), .int .i64 k, seqOf (wr.heap.size + 1 + 1), .int .i64 (x.val : Int), u14, u15, u16, u17, u18, u19, u20, u21, u22, u23, u24], defers := [] })
      ?assign ?body ?done ?stop
    case assign =>
      intro l x W K hK
      gi_wp2
      exact hK
    case body =>
      rintro lr pre x X ⟨hJX, hkf, hyX, hvX, hgX, hbX⟩ hpl
      have hyc := hyX.cell
      have hvc := hvX.cell
      have hlen : (pairsTo f m k ++ selE ⟨k, hkl⟩ pre).length < 64 := by
        have h1 := pairsTo_len f m k
        have h2 := selE_len ⟨k, hkl⟩ pre
        have h3 : (bitsOf (f k)).length ≤ 8 := by unfold bitsOf; exact Nat.le_trans (List.length_filter_le _ _) (by simp)
        rw [List.length_append]
        omega
      have hx8 : (x.val : Int) < 8 := by have := x.isLt; omega
      have hsn := selE_snoc ⟨k, hkl⟩ pre x
      by_cases hab : k < x.val
      · rw [if_pos hab] at hsn
        obtain ⟨fn, tmps, assign, body, hyy, hR⟩ := HY.out _ (⟨k, hkl⟩, x) X hJX hlen
        dsimp only at hyy
        have hab' : (k : Int) < (x.val : Int) := by omega
        have HS := Lib.hid hsn
        have HKF := Lib.hid hkf
        have HBX := Lib.hid hbX
        clear hsn hkf hbX
        gi_wp2
        refine ⟨fun _ => by omega, (round_turn lr hR).mono ?_⟩
        rintro e W3 ⟨hk3, ⟨rfl, hJ3, hb3, hg3, ht3⟩ | ⟨rfl, hJx3⟩⟩
        · gi_wp2
          exact ⟨keepsFrom_mono hk3 (by omega), hb3, by rw [HS.out, ← List.append_assoc]; exact hJ3, HKF.out.trans hk3, (ht3 _ _ _ _ hn2 hyX (by decide)).trans hyX, (ht3 _ _ _ _ (by omega) hvX (by decide)).trans hvX, hg3.trans hgX, HBX.out.trans hb3⟩
        · gi_wp2
          exact ⟨keepsFrom_mono hk3 (by omega), ⟨rfl, by rw [HS.out, ← List.append_assoc]; exact hJx3⟩, HKF.out.trans hk3⟩
      · rw [if_neg hab] at hsn
        have hab' : ¬ (k : Int) < (x.val : Int) := by omega
        have HS := Lib.hid hsn
        clear hsn
        gi_wp2
        refine ⟨fun f h => (by cases h), ?_⟩
        gi_wp2
        exact ⟨KeepsFrom.refl _ _, Below.refl _ _, by rw [HS.out]; exact hJX, hkf, hyX, hvX, hgX, hbX⟩
    case done =>
      rintro D ys X hD rfl ⟨hJX, hkf, hyX, hvX, hgX, hbX⟩ hKD
      have hMX := hM0.keeps hkf
      gi_wp2
      refine HK.out _ _ ⟨⟨k + 1, _, _, _, _, _, _, _, _, _, _, _, _, _, _, _, _, _, _, _, _, by omega, ?_, hb.trans (hbn.trans hbX), hgX, hyX, ?_, hMX.cons (Nat.le_trans (by omega) hD) hKD (fun d hd => ?_), rfl⟩, by simp [intOf]; omega⟩
      · rw [selE_all HF.out k hkl]; exact hJX
      · have := hkf.size; omega
      · exact hM0.lt d hd D hD
    case stop =>
      rintro D c pre X hD hpre ⟨⟨rfl, hJX⟩, hkf⟩ hKD
      have hMX := (hM0.keeps hkf).cons (Nat.le_trans (by omega) hD) hKD (fun d hd => hM0.lt d hd D hD)
      have hpp : pairsTo f m k ++ selE ⟨k, hkl⟩ pre <+: pairsTo f m m := by
        refine List.IsPrefix.trans ?_ (pairsTo_up f m (k := k + 1) hlt)
        rw [selE_all HF.out k hkl]
        exact (List.prefix_append_right_inj _).2 (selE_prefix hpre)
      gi_wp2
      exact edges_leave W (fun X => (∃ ys, ys = pairsTo f m m ∧ J ys X) ∨ (∃ pre, pre <+: pairsTo f m m ∧ Jx pre X)) (fun X D hD hk hR => hR.imp (fun ⟨ys, e, h⟩ => ⟨ys, e, HJ.out.putObj _ h hD hk rfl⟩) (fun ⟨p, e, h⟩ => ⟨p, e, HJX.out.putObj _ h hD hk rfl⟩)) _ _ X hMX (.inr ⟨_, hpp, hJX⟩) _
  · obtain rfl : k = m := by omega
    gi_wp2
    exact edges_leave W (fun X => J (pairsTo f k k) X ∨ (∃ pre, pre <+: pairsTo f k k ∧ Jx pre X)) (fun X D hD hk hR => hR.imp (fun h => HJ.out.putObj _ h hD hk rfl) (fun ⟨p, e, h⟩ => ⟨p, e, HJX.out.putObj _ h hD hk rfl⟩)) _ _ wr hM (.inl HJR.out) _

/-- The value that hands out a graph's edges, the graph in block Bg. -/
abbrev edgesSeq (Bg : Nat) : Value := .func (.func 54) #[] #[.pointer (some ⟨Bg, 0, none⟩)]

theorem edges_stops (n : Nat) (hn : 3 ≤ n) (Bg n₀ : Nat) (m : Nat) (f : Nat → Nat) (h8 : m ≤ 8) (hf : ∀ i, f i < 2 ^ m) (w : World) (hn₀ : 1 < n₀) (hnw : n₀ ≤ w.heap.size) (hB : Bg < w.heap.size)
    (hc : w.heap[Bg]? = some (.cells (gcells m f) 39 (0, 0))) (hT : Tab w) :
    SeqOwn Fence.wide n Tryd.prog 54 #[.pointer (some ⟨Bg, 0, none⟩)] (fun x : Fin 8 × Fin 8 => #[Value.int .i64 (x.1.val : Int), .int .i64 (x.2.val : Int)]) (KeepsE n₀ Bg w.heap.size) (fun ys => ys = pairsTo f m m) (fun pre => pre <+: pairsTo f m m) 64 w :=
  fun l J Jx W hW hJ hJx hY h0 => edges1_in n hn l Bg n₀ w.heap.size m f h8 hf hn₀ J Jx W hJ hJx (Nat.le_trans hnw hW.size) hW.size hY ((hW.block _ hB).trans hc) (hT.later hW) h0

set_option maxHeartbeats 400000 in
theorem edges_any (m : Nat) (f : Nat → Nat) (w : World) :
    Calls Tryd.prog 37 #[.agg (gcells m f)] w fun e w' => e = .returned (edgesSeq w.heap.size) ∧ w' = w.alloc (.cells (gcells m f) 39) := by
  go_enter Tryd.func37, Tryd.ntmps37
  go_wp2
  go_ret
  exact ⟨rfl, rfl⟩

end Go.Proofs.YtjijkgmeddeihaaDoor
