/-
  (graph).edges, for bodies that are asked for pairs of a graph's nodes alone.
-/
import Derived.Test.YtjijkgmeddeihaaDoorEdges
import Derived.Test.YtjijkgmeddeihaaDoorAllB
namespace Go.Proofs.YtjijkgmeddeihaaDoor
set_option linter.unusedVariables false
set_option linter.unusedSimpArgs false
open Go.RowKit Go.Shelf
attribute [local go_sem] Oper.semAt_some

set_option maxRecDepth 100000 in
set_option maxHeartbeats 4000000 in
theorem edges1_at (n : Nat) (hn : 3 ≤ n) (l Bg n₀ n₂ : Nat) (m : Nat) (f : Nat → Nat) (h8 : m ≤ 8) (hf : ∀ i, f i < 2 ^ m) (hn₀ : 1 < n₀) (J Jx : List (Fin 8 × Fin 8) → World → Prop)
    (W : World) (hJ : OwnFrom W.heap.size J) (hJx : OwnFrom W.heap.size Jx) (hnW : n₀ ≤ W.heap.size) (hn2 : n₂ ≤ W.heap.size)
    (hY : ∀ pre x W1, ((x : Fin 8 × Fin 8).1.val < x.2.val ∧ x.2.val < m) → J pre W1 → pre.length < 64 → YieldAt Fence.wide (n - 1) Tryd.prog l #[.int .i64 ((x : Fin 8 × Fin 8).1.val : Int), .int .i64 (x.2.val : Int)] W1 fun e W' => KeepsFrom W.heap.size W1 W' ∧
      ((e = .returned (.bool true) ∧ J (pre ++ [x]) W' ∧ KeepsE n₀ Bg n₂ W1 W') ∨ (e = .returned (.bool false) ∧ Jx (pre ++ [x]) W')))
    (hBn : W.heap[Bg]? = some (.cells (gcells m f) 39 (0, 0))) (hT : Tab W) (h0 : J [] W) :
    CallsIn Fence.wide n Tryd.prog 54 #[.func (.yield l) #[] #[], .pointer (some ⟨Bg, 0, none⟩)] W fun e W' => (∃ v, e = .returned v) ∧
      ((∃ ys, ys = pairsTo f m m ∧ J ys W') ∨ (∃ pre, pre <+: pairsTo f m m ∧ Jx pre W')) := by
  have hp8 := pow8_le (v := m) (by omega)
  have hf8 : ∀ i, f i < 256 := fun i => Nat.lt_of_lt_of_le (hf i) hp8
  have HF := Lib.hid hf
  have HF8 := Lib.hid hf8
  have HY := Lib.hid hY
  have HJ := Lib.hid hJ
  have HJX := Lib.hid hJx
  have hBW := (Array.getElem?_eq_some_iff.1 hBn).1
  obtain ⟨c0, _, _, _⟩ := graph_cells hBn
  refine callsIn_of_wp_marks Tryd.func54 rfl trivial ?_ rfl
  simp only [Tryd.ntmps54, List.size_toArray, List.length_cons, List.length_nil, Nat.reduceAdd, Nat.reduceSub, Array.replicate_succ, Array.replicate_zero, List.push_toArray, List.append_toArray, List.nil_append, List.cons_append]
  clear hf hf8 hp8 hY hJ hJx
  gi_wp2
  clear c0
  obtain ⟨Wb, hWb⟩ : ∃ Wb, W.alloc (.cells #[.func (.yield l) #[] #[]] 68) = Wb := ⟨_, rfl⟩
  have hbb : Below n₀ W Wb := by rw [← hWb]; exact (Below.refl _ _).alloc hnW _
  have hyb : Boxed Wb W.heap.size 68 (.func (.yield l) #[] #[]) := by rw [← hWb]; exact Boxed.new _ _ _
  have hgb : Wb.heap[Bg]? = some (.cells (gcells m f) 39 (0, 0)) := by rw [← hWb]; exact (Below.heap_alloc _ _ _ hBW).trans hBn
  have hJb : J [] Wb := by rw [← hWb]; exact HJ.out.alloc _ h0
  have hsb : W.heap.size < Wb.heap.size := by rw [← hWb]; simp
  rw [hWb]
  clear hWb h0 hBn
  refine wpIn_loop (fun a wr => ∃ (k : Nat) (ds : List Deferred) (u3 u4 u8 u9 u10 u11 u12 u13 u14 u15 u16 u17 u18 u19 u20 u21 u22 u23 u24 : Value), k ≤ m ∧ J (pairsTo f m k) wr ∧ Below n₀ W wr ∧ wr.heap[Bg]? = some (.cells (gcells m f) 39 (0, 0)) ∧ Boxed wr W.heap.size 68 (.func (.yield l) #[] #[]) ∧
      W.heap.size < wr.heap.size ∧ Marks W.heap.size ds wr ∧
      a = { tmps := #[.func (.yield l) #[] #[], .pointer (some ⟨Bg, 0, none⟩), .pointer (some ⟨W.heap.size, 0, none⟩), u3, u4, .pointer (some ⟨Bg, 0, none⟩), .int .i64 m, .int .i64 k, u8, u9, u10, u11, u12, u13, u14, u15, u16, u17, u18, u19, u20, u21, u22, u23, u24], defers := ds })
    (fun a _ => m - (intOf (a.tmps.getD 7 undef)).toNat) ⟨0, [], _, _, _, _, _, _, _, _, _, _, _, _, _, _, _, _, _, _, _, by omega, hJb, hbb, hgb, hyb, hsb, Marks.nil _ _, rfl⟩ ?_
  rintro a wr ⟨k, ds, u3, u4, u8, u9, u10, u11, u12, u13, u14, u15, u16, u17, u18, u19, u20, u21, u22, u23, u24, hk, hJr, hb, hg, hy, hsz, hM, rfl⟩
  refine round_k (fun K hK => ?_)
  have HK := Lib.hid hK
  have HG := Lib.hid hg
  have HJR := Lib.hid hJr
  clear hK hg hJr hgb hJb hyb hbb hsb
  have hTr := hT.below hb hn₀
  by_cases hlt : k < m
  · have hk8 : (k : Int) < 8 := by omega
    have HT := Lib.hid hTr
    clear hTr
    have hlt1 := (Array.getElem?_eq_some_iff.1 HG.out).1
    gi_wp2_with (first
      | (refine ⟨trivial, fun _ => by omega, ?_⟩; gi_at_call 55; refine (callsIn_wide.2 (neighbours_any m f k (by omega) _)).mono ?_; rintro e w' ⟨rfl, rfl⟩)
      | (refine load_graph_in rfl _ rfl _ m f rfl ((Below.heap_alloc _ _ _ (by omega)).trans HG.out) ?_))
    obtain ⟨W0, hW0⟩ : ∃ W0, ((wr.alloc (.cells #[.int .i64 (k : Int)] 3)).alloc (.cells (gcells m f) 39)).alloc (.cells #[.int .i64 (f k : Nat)] 36) = W0 := ⟨_, rfl⟩
    have hb0 : Below wr.heap.size wr W0 := by rw [← hW0]; exact (((Below.refl _ _).alloc (Nat.le_refl _) _).alloc (by simp) _).alloc (by simp; omega) _
    have hsz0 : W0.heap.size = wr.heap.size + 3 := by rw [← hW0]; simp
    have hv0 : Boxed W0 wr.heap.size 3 (.int .i64 (k : Int)) := by
      rw [← hW0]; exact ((Boxed.new wr 3 (.int .i64 (k : Int))).alloc _).alloc _
    have hs0 : W0.heap[wr.heap.size + 1 + 1]? = some (.cells #[.int .i64 (f k : Nat)] 36 (0, 0)) := by
      rw [← hW0]
      have := World.alloc_heap_new ((wr.alloc (.cells #[.int .i64 (k : Int)] 3)).alloc (.cells (gcells m f) 39)) (.cells #[.int .i64 (f k : Nat)] 36)
      rwa [World.size_alloc, World.size_alloc] at this
    have hg0 : W0.heap[Bg]? = some (.cells (gcells m f) 39 (0, 0)) := (hb0.block _ hlt1).trans HG.out
    have hy0 : Boxed W0 W.heap.size 68 (.func (.yield l) #[] #[]) := (hb0.block _ hsz).trans hy
    have hM0 := hM.below hb0
    have hsw : W.heap.size ≤ wr.heap.size := by omega
    have hbn : Below n₀ wr W0 := hb0.mono (by omega)
    have hT0 : Tab W0 := HT.out.below hbn hn₀
    have hJ0 : J (pairsTo f m k) W0 := by rw [← hW0]; exact HJ.out.alloc _ (HJ.out.alloc _ (HJ.out.alloc _ HJR.out))
    rw [hW0]
    clear hW0
    have hkl : k < 8 := by omega
    refine wpIn_rangeFunc_ownG rfl (by omega) (gf := 62) (lb := #[.pointer (some ⟨wr.heap.size + 1 + 1, 0, none⟩)]) rfl trivial (enters_of Tryd.func62 (by kernel_rfl) rfl)
      (all_stopsB (n - 1) (by omega) (wr.heap.size + 1 + 1) n₀ (f k) (HF8.out k) W0 hn₀ (by omega) (cell_of_one hs0) hT0) belowK_t (belowK_b (w := W0) (by omega)) (Below.refl _ _) (fun _ => rfl)
      (fun pre X => J (pairsTo f m k ++ selE ⟨k, hkl⟩ (pre.map (·.1))) X ∧ KeepsFrom W.heap.size W0 X ∧ Boxed X W.heap.size 68 (.func (.yield l) #[] #[]) ∧ Boxed X wr.heap.size 3 (.int .i64 (k : Int)) ∧ X.heap[Bg]? = some (.cells (gcells m f) 39 (0, 0)) ∧ Below n₀ W0 X)
      (fun c pre X => (c = .ret ∧ Jx (pairsTo f m k ++ selE ⟨k, hkl⟩ (pre.map (·.1))) X) ∧ KeepsFrom W.heap.size W0 X)
      (OwnFrom.and (ownFrom_mono (fun s X Y row hs hg hr => HJ.out _ X Y row hs hg hr) (by omega)) (OwnFrom.and (ownFrom_keepsFrom (by omega)) (OwnFrom.and (Own.from (boxed_own _ _ _) _) (OwnFrom.and (Own.from (boxed_own _ _ _) _) (OwnFrom.and (Own.from (fun _ _ _ _ hs hg hr => cells_kept hs hg hr) _) (ownFrom_below (by omega) (by omega)))))))
      (fun c => OwnFrom.and (fun s X Y row hs hg hr => ⟨hs.1, ownFrom_mono (I := Jx) HJX.out (by omega) _ X Y row hs.2 hg hr⟩) (ownFrom_keepsFrom (by omega)))
      ⟨by rw [List.map_nil, selE_nil, List.append_nil]; exact hJ0, KeepsFrom.refl _ _, hy0, hv0, hg0, Below.refl _ _⟩
      (fun x => { tmps := #[.func (.yield l) #[] #[], .pointer (some ⟨Bg, 0, none⟩), .pointer (some ⟨W.heap.size, 0, none⟩), .pointer (some ⟨wr.heap.size, 0, none⟩), .int .i64 (x.1.val : Int), .pointer (some ⟨Bg, 0, none⟩), .int .i64 m, .int .i64 k, .bool true, .int .i64 k, .agg (gcells m f), .int .i64 k, seqOf (wr.heap.size + 1 + 1), .int .i64 (x.1.val : Int), u14, u15, u16, u17, u18, u19, u20, u21, u22, u23, u24], defers := [] })
      ?assign ?body ?done ?stop
    case assign =>
      intro l x W K hK
      gi_wp2
      exact hK
    case body =>
      rintro lr pre ⟨x, hxk⟩ X ⟨hJX, hkf, hyX, hvX, hgX, hbX⟩ hpl
      have hxm : x.val < m := by
        rcases Nat.lt_or_ge x.val m with h | h
        · exact h
        · rw [Nat.testBit_lt_two_pow (Nat.lt_of_lt_of_le (HF.out k) (Nat.pow_le_pow_right (by decide) h))] at hxk; cases hxk
      have hyc := hyX.cell
      have hvc := hvX.cell
      have hlen : (pairsTo f m k ++ selE ⟨k, hkl⟩ (pre.map (·.1))).length < 64 := by
        have h1 := pairsTo_len f m k
        have h2 := selE_len ⟨k, hkl⟩ (pre.map (·.1))
        rw [List.length_map] at h2
        have h3 : (bitsOf (f k)).length ≤ 8 := by unfold bitsOf; exact Nat.le_trans (List.length_filter_le _ _) (by simp)
        rw [List.length_append]
        omega
      have hx8 : (x.val : Int) < 8 := by have := x.isLt; omega
      have hsn := selE_snoc ⟨k, hkl⟩ (pre.map (·.1)) x
      rw [← map_snoc_val pre ⟨x, hxk⟩] at hsn
      by_cases hab : k < x.val
      · rw [if_pos hab] at hsn
        obtain ⟨fn, tmps, assign, body, hyy, hR⟩ := HY.out _ (⟨k, hkl⟩, x) X ⟨hab, hxm⟩ hJX hlen
        dsimp only at hyy
        have hab' : (k : Int) < (x.val : Int) := by omega
        have HS := Lib.hid hsn
        have HKF := Lib.hid hkf
        have HBX := Lib.hid hbX
        clear hsn hkf hbX
        gi_wp2
        refine ⟨fun _ => by omega, (round_turn lr hR).mono ?_⟩
        rintro e W3 ⟨hk3, ⟨rfl, hJ3, hb3, hg3, ht3⟩ | ⟨rfl, hJx3⟩⟩
        · gi_wp2
          exact ⟨keepsFrom_mono hk3 (by omega), hb3, by rw [HS.out, ← List.append_assoc]; exact hJ3, HKF.out.trans hk3, (ht3 _ _ _ _ hn2 hyX (by decide)).trans hyX, (ht3 _ _ _ _ (by omega) hvX (by decide)).trans hvX, hg3.trans hgX, HBX.out.trans hb3⟩
        · gi_wp2
          exact ⟨keepsFrom_mono hk3 (by omega), ⟨rfl, by rw [HS.out, ← List.append_assoc]; exact hJx3⟩, HKF.out.trans hk3⟩
      · rw [if_neg hab] at hsn
        have hab' : ¬ (k : Int) < (x.val : Int) := by omega
        have HS := Lib.hid hsn
        clear hsn
        gi_wp2
        refine ⟨fun f h => (by cases h), ?_⟩
        gi_wp2
        exact ⟨KeepsFrom.refl _ _, Below.refl _ _, by rw [HS.out]; exact hJX, hkf, hyX, hvX, hgX, hbX⟩
    case done =>
      rintro D ys X hD hys ⟨hJX, hkf, hyX, hvX, hgX, hbX⟩ hKD
      rw [hys] at hJX
      have hMX := hM0.keeps hkf
      gi_wp2
      refine HK.out _ _ ⟨⟨k + 1, _, _, _, _, _, _, _, _, _, _, _, _, _, _, _, _, _, _, _, _, by omega, ?_, hb.trans (hbn.trans hbX), hgX, hyX, ?_, hMX.cons (Nat.le_trans (by omega) hD) hKD (fun d hd => ?_), rfl⟩, by simp [intOf]; omega⟩
      · rw [selE_all HF.out k hkl]; exact hJX
      · have := hkf.size; omega
      · exact hM0.lt d hd D hD
    case stop =>
      rintro D c pre X hD hpre ⟨⟨rfl, hJX⟩, hkf⟩ hKD
      have hMX := (hM0.keeps hkf).cons (Nat.le_trans (by omega) hD) hKD (fun d hd => hM0.lt d hd D hD)
      have hpp : pairsTo f m k ++ selE ⟨k, hkl⟩ (pre.map (·.1)) <+: pairsTo f m m := by
        refine List.IsPrefix.trans ?_ (pairsTo_up f m (k := k + 1) hlt)
        rw [selE_all HF.out k hkl]
        exact (List.prefix_append_right_inj _).2 (selE_prefix hpre)
      gi_wp2
      exact edges_leave W (fun X => (∃ ys, ys = pairsTo f m m ∧ J ys X) ∨ (∃ pre, pre <+: pairsTo f m m ∧ Jx pre X)) (fun X D hD hk hR => hR.imp (fun ⟨ys, e, h⟩ => ⟨ys, e, HJ.out.putObj _ h hD hk rfl⟩) (fun ⟨p, e, h⟩ => ⟨p, e, HJX.out.putObj _ h hD hk rfl⟩)) _ _ X hMX (.inr ⟨_, hpp, hJX⟩) _
  · obtain rfl : k = m := by omega
    gi_wp2
    exact edges_leave W (fun X => J (pairsTo f k k) X ∨ (∃ pre, pre <+: pairsTo f k k ∧ Jx pre X)) (fun X D hD hk hR => hR.imp (fun h => HJ.out.putObj _ h hD hk rfl) (fun ⟨p, e, h⟩ => ⟨p, e, HJX.out.putObj _ h hD hk rfl⟩)) _ _ wr hM (.inl HJR.out) _

/-- A pair of nodes, the lower one first. -/
abbrev EdgeIn (m : Nat) : Type := {x : Fin 8 × Fin 8 // x.1.val < x.2.val ∧ x.2.val < m}
theorem edges_stopsB (n : Nat) (hn : 3 ≤ n) (Bg n₀ : Nat) (m : Nat) (f : Nat → Nat) (h8 : m ≤ 8) (hf : ∀ i, f i < 2 ^ m) (w : World) (hn₀ : 1 < n₀) (hnw : n₀ ≤ w.heap.size) (hB : Bg < w.heap.size)
    (hc : w.heap[Bg]? = some (.cells (gcells m f) 39 (0, 0))) (hT : Tab w) :
    SeqOwn Fence.wide n Tryd.prog 54 #[.pointer (some ⟨Bg, 0, none⟩)] (fun x : EdgeIn m => #[Value.int .i64 (x.1.1.val : Int), .int .i64 (x.1.2.val : Int)]) (KeepsE n₀ Bg w.heap.size) (fun ys => ys.map (·.1) = pairsTo f m m) (fun pre => pre.map (·.1) <+: pairsTo f m m) 64 w := by
  intro l J Jx W hW hJ hJx hY h0
  have hown : ∀ {I : List (EdgeIn m) → World → Prop}, OwnFrom W.heap.size I → OwnFrom W.heap.size (fun (pre : List (Fin 8 × Fin 8)) W => ∃ q : List (EdgeIn m), q.map (·.1) = pre ∧ I q W) := by
    intro I hI
    rintro pre X Y row ⟨q, e, hq⟩ hg hr
    exact ⟨q, e, hI q X Y row hq hg hr⟩
  have h := edges1_at n hn l Bg n₀ w.heap.size m f h8 hf hn₀ (fun pre W => ∃ q : List (EdgeIn m), q.map (·.1) = pre ∧ J q W) (fun pre W => ∃ q : List (EdgeIn m), q.map (·.1) = pre ∧ Jx q W) W (hown hJ) (hown hJx) (Nat.le_trans hnw hW.size) hW.size
    (fun pre x W1 hx hJp hl => by
      obtain ⟨q, rfl, hJq⟩ := hJp
      obtain ⟨fn, tmps, assign, body, hy, hR⟩ := hY q ⟨x, hx⟩ W1 hJq (by simpa using hl)
      refine ⟨fn, tmps, assign, body, hy, hR.mono ?_⟩
      rintro e W' ⟨hk, ⟨he, hJ, hb⟩ | ⟨he, hJ⟩⟩
      · exact ⟨hk, .inl ⟨he, ⟨_, map_snoc_val _ _, hJ⟩, hb⟩⟩
      · exact ⟨hk, .inr ⟨he, ⟨_, map_snoc_val _ _, hJ⟩⟩⟩)
    ((hW.block _ hB).trans hc) (hT.later hW) ⟨[], rfl, h0⟩
  refine h.mono ?_
  rintro e W' ⟨hv, ⟨ys, hys, q, hq, hJ⟩ | ⟨pre, hpre, q, hq, hJ⟩⟩
  · exact ⟨hv, .inl ⟨q, hq.trans hys, hJ⟩⟩
  · exact ⟨hv, .inr ⟨q, by show q.map (·.1) <+: _; rw [hq]; exact hpre, hJ⟩⟩

end Go.Proofs.YtjijkgmeddeihaaDoor
