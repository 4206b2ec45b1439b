/-
  spec.MarketBlocks and impl.MarketBlocks.
-/
import Derived.Test.YtahilcnmjnjcaaaDoorBlockGen
import Derived.Test.YtahilcnmjnjcaaaDoorMarks
import Derived.Test.YtahilcnmjnjcaaaDoorNest
import Derived.RangeFuncWrites
import Derived.Maps.AppendAt
namespace Go.Proofs.YtahilcnmjnjcaaaDoor
set_option linter.unusedVariables false
set_option linter.unusedSimpArgs false
open Go.RowKit Go.Shelf

def blocksL (ls rs : List (List Int)) (xs : List Int) : List (List Int) := if pairOk ls rs xs = true then (blocksOf ls rs xs).map prL else []
theorem blocksL_yes {ls rs : List (List Int)} {xs : List Int} (h : pairOk ls rs xs = true) : blocksL ls rs xs = (blocksOf ls rs xs).map prL := if_pos h
theorem blocksL_no {ls rs : List (List Int)} {xs : List Int} (h : pairOk ls rs xs = false) : blocksL ls rs xs = [] := by unfold blocksL; rw [h]; rfl
theorem total_prL (l : List (Nat × Nat)) : total (l.map prL) = 2 * l.length := by
  unfold total
  induction l with
  | nil => rfl
  | cons e l ih => rw [List.map_cons, List.map_cons, List.sum_cons, ih, List.length_cons, show (prL e).length = 2 from rfl]; omega
theorem blocksL_len (ls rs : List (List Int)) (xs : List Int) : (blocksL ls rs xs).length + total (blocksL ls rs xs) ≤ 1048576 := by
  cases h : pairOk ls rs xs with
  | true =>
    rw [blocksL_yes h, total_prL, List.length_map]
    have h5 := pair_parts h
    have := pairsB_len (blockB ls rs xs) xs.length xs.length
    have q3 : xs.length * xs.length ≤ 5 * 5 := Nat.mul_le_mul (by omega) (by omega)
    unfold blocksOf
    omega
  | false => rw [blocksL_no h]; simp [total]


/-- All cells stay but those of lists of lists. -/
structure KeepsT (X Y : World) : Prop where
  os : Y.os = X.os
  tape : Y.tape = X.tape
  output : Y.output = X.output
  size : X.heap.size ≤ Y.heap.size
  same : ∀ (k : Nat) (c : Array Value) (t : TypeId) (fr : Nat × Nat), X.heap[k]? = some (.cells c t fr) → t ≠ 39 → t ≠ 22 → Y.heap[k]? = some (.cells c t fr)
theorem KeepsT.trans {X Y Z : World} (h : KeepsT X Y) (k : KeepsT Y Z) : KeepsT X Z :=
  ⟨k.os.trans h.os, k.tape.trans h.tape, k.output.trans h.output, Nat.le_trans h.size k.size, fun i c t fr hi h1 h2 => k.same i c t fr (h.same i c t fr hi h1 h2) h1 h2⟩
theorem keepsT_putObj (W : World) (l : Nat) (o o' : Obj) (hl : W.heap[l]? = some o) (ho : o.isCells = false) : KeepsT W (W.putObj l o') := by
  have hg := grownBy_putObj' W l o'
  refine ⟨hg.os, hg.tape, hg.output, hg.size, fun k c t fr hk _ _ => ?_⟩
  refine (hg.block k (Array.getElem?_eq_some_iff.1 hk).1 (fun e => ?_)).trans hk
  cases e
  rw [hl] at hk
  cases hk
  cases ho
theorem owns_keepsT {X Y : World} {b n : Nat} {e : TypeId} {v : Value} {xs : List Value} (h : X.ownsRow b e 1 v n xs) (k : KeepsT X Y) (h1 : e ≠ 39) (h2 : e ≠ 22) : Y.ownsRow b e 1 v n xs := by
  refine ⟨h.1, ?_⟩
  rcases h.2 with hn | ⟨g, cap, cur, hv, hb, hg, rest⟩
  · exact .inl hn
  · exact .inr ⟨g, cap, cur, hv, hb, k.same _ _ _ _ hg h1 h2, rest⟩
theorem OwnsOrd.keepsT {X Y : World} {lo hi : Nat} {v : Value} {us : List Value} {xss : List (List Int)} (h : OwnsOrd X lo hi v us xss) (k : KeepsT X Y) : OwnsOrd Y lo hi v us xss :=
  ⟨h.len, ⟨owns_keepsT h.outer.1 k (by decide) (by decide), h.outer.2⟩, fun i hi' => ⟨owns_keepsT (h.inner i hi').1 k (by decide) (by decide), (h.inner i hi').2⟩, h.apart⟩

/-- What the iterator reads, with the types of its rows. -/
structure RdT (X : World) (Bp Bm : Nat) (a1 a2 a3 a4 pv : Value) (ls rs : List (List Int)) (ps : List Int) : Prop where
  mkt : X.heap[Bm]? = some (.cells (four a1 a2 a3 a4) 60 (0, 0))
  pb : X.heap[Bp]? = some (.cells #[pv] 66 (0, 0))
  left : ∃ lo hi us, OwnsOrd X lo hi a2 us (ls.map backOf)
  right : ∃ lo hi us, OwnsOrd X lo hi a4 us (rs.map backOf)
  ints : ∃ lo, Owns X lo pv ps
theorem RdT.read {X : World} {Bp Bm : Nat} {a1 a2 a3 a4 pv : Value} {ls rs : List (List Int)} {ps : List Int} (h : RdT X Bp Bm a1 a2 a3 a4 pv ls rs ps) : BlkRd X Bp Bm a1 a2 a3 a4 pv ls rs ps := by
  obtain ⟨h1, h2, ⟨_, _, _, h3⟩, ⟨_, _, _, h4⟩, ⟨_, h5⟩⟩ := h
  exact ⟨h1, by rw [cell_of_row _ _ _ _ _ _ h2]; rfl, h3.rows, h4.rows, ints_of_owns h5⟩
theorem RdT.below {X Y : World} {Bp Bm : Nat} {a1 a2 a3 a4 pv : Value} {ls rs : List (List Int)} {ps : List Int} (h : RdT X Bp Bm a1 a2 a3 a4 pv ls rs ps) (hb : Below X.heap.size X Y) : RdT Y Bp Bm a1 a2 a3 a4 pv ls rs ps := by
  obtain ⟨h1, h2, ⟨_, _, _, h3⟩, ⟨_, _, _, h4⟩, ⟨_, h5⟩⟩ := h
  exact ⟨kept_obj hb h1, kept_obj hb h2, ⟨_, _, _, h3.below hb⟩, ⟨_, _, _, h4.below hb⟩, ⟨_, owns_below h5 hb⟩⟩
theorem RdT.keepsT {X Y : World} {Bp Bm : Nat} {a1 a2 a3 a4 pv : Value} {ls rs : List (List Int)} {ps : List Int} (h : RdT X Bp Bm a1 a2 a3 a4 pv ls rs ps) (k : KeepsT X Y) : RdT Y Bp Bm a1 a2 a3 a4 pv ls rs ps := by
  obtain ⟨h1, h2, ⟨_, _, _, h3⟩, ⟨_, _, _, h4⟩, ⟨_, h5⟩⟩ := h
  exact ⟨k.same _ _ _ _ h1 (by decide) (by decide), k.same _ _ _ _ h2 (by decide) (by decide), ⟨_, _, _, h3.keepsT k⟩, ⟨_, _, _, h4.keepsT k⟩, ⟨_, owns_keepsT h5 k (by decide) (by decide)⟩⟩

/-- The rows so far. -/
def BlkRows (w : World) (bx : Nat) (pre : List (Nat × Nat)) (X : World) : Prop :=
  ∃ v us, Boxed X bx 22 v ∧ OwnsRows X w.heap.size X.heap.size v us (pre.map prL)
theorem blkRows_own (w : World) (bx : Nat) : Own (BlkRows w bx) := by
  rintro pre X Y row ⟨v, us, hb, hr⟩ hg hrow
  refine ⟨v, us, boxed_own bx 22 (fun _ : Unit => v) () X Y row hb hg hrow, ?_⟩
  have h := hr.still hg hrow
  exact h.wide (Nat.le_refl _) hg.size

attribute [local go_sem] Oper.semAt_some
set_option maxRecDepth 100000 in
set_option maxHeartbeats 4000000 in
theorem implBlocks_any (w : World) (L R v : Value) (ls rs : List (List Int)) (xs : List Int) (hL : IntRows w L ls) (hR : IntRows w R rs) (hx : Ints w v xs) :
    Calls Tryd.prog 25 #[.agg (two L R), v] w (GivesRows w (pairOk ls rs xs) (blocksL ls rs xs)) := by
  obtain ⟨W0, hW0⟩ : ∃ W0, w.alloc (.cells (two L R) 28) = W0 := ⟨_, rfl⟩
  have hb0 : Below w.heap.size w W0 := by rw [← hW0]; exact (Below.refl _ _).alloc (Nat.le_refl _) _
  have hbox : W0.heap[w.heap.size]? = some (.cells (two L R) 28 (0, 0)) := by rw [← hW0]; exact World.alloc_heap_new _ _
  have HRP := Lib.hid (readPair_any W0 L R v ls rs xs (hL.below hb0) (hR.below hb0) (hx.below hb0))
  have HB0 := Lib.hid hb0
  clear hL hR hx hb0
  cases hok : pairOk ls rs xs with
  | false =>
    have HEQ := Lib.hid (blocksL_no hok)
    have HOK := Lib.hid hok
    clear hok
    go_enter Tryd.func25, Tryd.ntmps25
    go_wp2_with (refine load_mi rfl _ rfl w.heap.size L R rfl hbox ?_)
    clear hW0
    refine HRP.out.mono ?_
    rintro e w1 ⟨a1, a2, a3, a4, p, rfl, hb1, ⟨⟨A1, n1, c1, rfl⟩, ⟨A2, n2, c2, rfl⟩, ⟨A3, n3, c3, rfl⟩, ⟨A4, n4, c4, rfl⟩, ⟨Ap, np, cp, rfl⟩⟩, -⟩
    rw [HOK.out]
    have hb12 : Below w1.heap.size w1 (w1.alloc (.cells (four (.slice A1 n1 c1) (.slice A2 n2 c2) (.slice A3 n3 c3) (.slice A4 n4 c4)) 60)) := (Below.refl _ _).alloc (Nat.le_refl _) _
    have HB2 := Lib.hid (step_below (step_below HB0.out hb1) hb12)
    clear hb1 hb12
    go_wp2
    go_ret2
    rw [HEQ.out]
    exact ⟨nilS, [], rfl, HB2.out, owns_rows_nil _ _ _ (World.ownsRow_nil _ _ _ _)⟩
  | true =>
    have HEQ := Lib.hid (blocksL_yes hok)
    have HOK := Lib.hid hok
    obtain ⟨i0, hi, hz0, hz1, hz2⟩ := info_parts infoRow
    clear hok
    refine (callsIn_wide (n := 9)).1 ?_
    refine callsIn_of_wp_marks Tryd.func25 rfl trivial ?_ rfl
    simp only [Tryd.ntmps25, List.size_toArray, List.length_cons, List.length_nil, Nat.reduceAdd, Nat.reduceSub, Array.replicate_succ, Array.replicate_zero, List.push_toArray, List.append_toArray, List.nil_append, List.cons_append]
    obtain ⟨x0, x1, _, _⟩ := two_cells hbox
    gi_wp2_with (first
      | (refine ⟨trivial, ?_⟩; gi_at_call 55; refine (callsIn_wide.2 HRP.out).mono ?_; rintro e w1 ⟨a1, a2, a3, a4, p, rfl, hb1, ⟨⟨A1, n1, c1, rfl⟩, ⟨A2, n2, c2, rfl⟩, ⟨A3, n3, c3, rfl⟩, ⟨A4, n4, c4, rfl⟩, ⟨Ap, np, cp, rfl⟩⟩, hat⟩; rw [HOK.out])
      | (refine ⟨trivial, ?_⟩; gi_at_call 56; refine (callsIn_wide.2 (blocking_any _ _ _ _ _ Ap np cp)).mono ?_; rintro e w' ⟨rfl, rfl⟩))
    obtain ⟨hm, lo, hoP⟩ := hat HOK.out
    clear hat
    obtain ⟨_, hlf⟩ := hm.two
    obtain ⟨_, hrf⟩ := hm.four
    obtain ⟨W5, hW5⟩ : ∃ W5, (((((w1.alloc (.cells #[.slice A1 n1 c1, .slice A2 n2 c2, .slice A3 n3 c3, .slice A4 n4 c4] 60)).alloc (.cells #[] 39)).alloc (.cells #[.slice (some ⟨w1.heap.size + 1, 0, none⟩) 0 0] 22)).alloc
      (.cells (four (.slice A1 n1 c1) (.slice A2 n2 c2) (.slice A3 n3 c3) (.slice A4 n4 c4)) 60)).alloc (.cells #[.slice Ap np cp] 66)) = W5 := ⟨_, rfl⟩
    have hb15 : Below w1.heap.size w1 W5 := by rw [← hW5]; exact (((((Below.refl _ _).alloc (Nat.le_refl _) _).alloc (by simp) _).alloc (by simp; omega) _).alloc (by simp; omega) _).alloc (by simp; omega) _
    have hb05 : Below w.heap.size w W5 := step_below (step_below HB0.out hb1) hb15
    have hsz : W5.heap.size = w1.heap.size + 5 := by rw [← hW5]; simp
    have hww1 : w.heap.size ≤ w1.heap.size := (step_below HB0.out hb1).size
    have hn0 : Boxed W5 (w1.heap.size + 1 + 1) 22 (.slice (some ⟨w1.heap.size + 1, 0, none⟩) 0 0) := by
      rw [← hW5]
      have := Boxed.new ((w1.alloc (.cells #[.slice A1 n1 c1, .slice A2 n2 c2, .slice A3 n3 c3, .slice A4 n4 c4] 60)).alloc (.cells #[] 39)) 22 (.slice (some ⟨w1.heap.size + 1, 0, none⟩) 0 0)
      rw [World.size_alloc, World.size_alloc] at this
      exact (this.alloc _).alloc _
    have hrow0 : W5.ownsRow w.heap.size 39 1 (.slice (some ⟨w1.heap.size + 1, 0, none⟩) 0 0) 0 [] := by
      rw [← hW5]
      have := World.ownsRow_made (base := w.heap.size) (e := 39) (size := 1) (w1.alloc (.cells #[.slice A1 n1 c1, .slice A2 n2 c2, .slice A3 n3 c3, .slice A4 n4 c4] 60)) #[] 0 (by simp; omega) (Nat.zero_le _) rfl
      rw [World.size_alloc] at this
      exact ((this.alloc _).alloc _).alloc _
    have hmk5 : W5.heap[w1.heap.size + 1 + 1 + 1]? = some (.cells (four (.slice A1 n1 c1) (.slice A2 n2 c2) (.slice A3 n3 c3) (.slice A4 n4 c4)) 60 (0, 0)) := by
      rw [← hW5]
      have := heap_two_old (((w1.alloc (.cells #[.slice A1 n1 c1, .slice A2 n2 c2, .slice A3 n3 c3, .slice A4 n4 c4] 60)).alloc (.cells #[] 39)).alloc (.cells #[.slice (some ⟨w1.heap.size + 1, 0, none⟩) 0 0] 22)) (.cells (four (.slice A1 n1 c1) (.slice A2 n2 c2) (.slice A3 n3 c3) (.slice A4 n4 c4)) 60) (.cells #[.slice Ap np cp] 66)
      rwa [World.size_alloc, World.size_alloc, World.size_alloc] at this
    have hpb5 : W5.heap[w1.heap.size + 1 + 1 + 1 + 1]? = some (.cells #[.slice Ap np cp] 66 (0, 0)) := by
      rw [← hW5]
      have := heap_two_new (((w1.alloc (.cells #[.slice A1 n1 c1, .slice A2 n2 c2, .slice A3 n3 c3, .slice A4 n4 c4] 60)).alloc (.cells #[] 39)).alloc (.cells #[.slice (some ⟨w1.heap.size + 1, 0, none⟩) 0 0] 22)) (.cells (four (.slice A1 n1 c1) (.slice A2 n2 c2) (.slice A3 n3 c3) (.slice A4 n4 c4)) 60) (.cells #[.slice Ap np cp] 66)
      rwa [World.size_alloc, World.size_alloc, World.size_alloc] at this
    have hrd : RdT W5 (w1.heap.size + 1 + 1 + 1 + 1) (w1.heap.size + 1 + 1 + 1) (.slice A1 n1 c1) (.slice A2 n2 c2) (.slice A3 n3 c3) (.slice A4 n4 c4) (.slice Ap np cp) ls rs xs :=
      ⟨hmk5, hpb5, ⟨_, _, _, hlf.below hb15⟩, ⟨_, _, _, hrf.below hb15⟩, ⟨_, owns_below hoP hb15⟩⟩
    rw [hW5]
    have HRD := Lib.hid hrd
    have HW := Lib.hid (And.intro hsz (And.intro hww1 hb05))
    clear hW5 x0 x1 hm hoP hlf hrf hmk5 hpb5 hrd hb15 hb1 hW0 hbox
    refine wpIn_rangeFunc_ownG rfl (by decide) (gf := 78) (lb := #[.pointer (some ⟨w1.heap.size + 1 + 1 + 1 + 1, 0, none⟩), .pointer (some ⟨w1.heap.size + 1 + 1 + 1, 0, none⟩)]) rfl trivial (enters_of Tryd.func78 (by kernel_rfl) rfl)
      (blocking_stops (9 - 1) (by decide) (w1.heap.size + 1 + 1 + 1 + 1) (w1.heap.size + 1 + 1 + 1) A1 n1 c1 A2 n2 c2 A3 n3 c3 A4 n4 c4 Ap np cp ls rs xs HOK.out KeepsT (fun X => RdT X (w1.heap.size + 1 + 1 + 1 + 1) (w1.heap.size + 1 + 1 + 1) (.slice A1 n1 c1) (.slice A2 n2 c2) (.slice A3 n3 c3) (.slice A4 n4 c4) (.slice Ap np cp) ls rs xs)
        (fun X h => h.read) (fun X Y h hb => h.below hb) (fun X Y k h => h.keepsT k) (fun X Y kb k h => owns_keepsT h k (by decide) (by decide)) W5 HRD.out)
      (fun h k => KeepsT.trans h k) (fun W l o o' _ hl ho _ => keepsT_putObj W l o o' hl ho) (Below.refl _ _) (fun _ => rfl)
      (fun pre X => BlkRows w (w1.heap.size + 1 + 1) pre X ∧ Below w.heap.size w X)
      (fun _ _ _ => False)
      (OwnFrom.and (Own.from (blkRows_own w _) _) (ownFrom_below (Nat.le_refl _) (by have := HW.out; omega)))
      (fun c => ownFrom_pure _ (fun _ => False))
      ⟨⟨_, [], hn0, owns_rows_nil _ _ _ hrow0⟩, hb05⟩
      (fun x => { tmps := #[.agg (two L R), v, .pointer (some ⟨w.heap.size, 0, none⟩), undef, .slice none 0 0, .bool false, .pointer (some ⟨w1.heap.size, 0, none⟩), .slice Ap np cp, .bool true, .pointer (some ⟨w1.heap.size + 1 + 1, 0, none⟩), .int .i64 (x.1 : Int), .int .i64 (x.2 : Int),
        .tuple #[.agg (four (.slice A1 n1 c1) (.slice A2 n2 c2) (.slice A3 n3 c3) (.slice A4 n4 c4)), .slice Ap np cp, .bool true], .agg #[L, R], v, .tuple #[.agg (four (.slice A1 n1 c1) (.slice A2 n2 c2) (.slice A3 n3 c3) (.slice A4 n4 c4)), .slice Ap np cp, .bool true],
        .agg (four (.slice A1 n1 c1) (.slice A2 n2 c2) (.slice A3 n3 c3) (.slice A4 n4 c4)), .slice Ap np cp, .bool true, .bool true, .bool false, .slice (some ⟨w1.heap.size + 1, 0, none⟩) 0 0, .agg #[.slice A1 n1 c1, .slice A2 n2 c2, .slice A3 n3 c3, .slice A4 n4 c4], .slice Ap np cp,
        blockSeq (w1.heap.size + 1 + 1 + 1 + 1) (w1.heap.size + 1 + 1 + 1), .int .i64 (x.1 : Int), .int .i64 (x.2 : Int), undef, undef, undef, undef, undef, undef, undef], defers := [] })
      ?assign ?body ?done ?stop
    case assign =>
      intro l x W K hK
      gi_wp2
      exact hK
    case body =>
      rintro l pre x X ⟨⟨v, us, hv, hrows⟩, hB⟩ hlen
      have hcr := hv.cell
      have hfr := hv.frozen
      have hul := hrows.len
      rw [List.length_map] at hul
      have hrow : X.ownsRow w.heap.size 39 1 v us.length us := by
        have := hrows.outer.1
        rwa [List.length_map, ← hul] at this
      have hlen' : us.length < 100 := by omega
      have hBs := hB.size
      clear hul hn0 hrow0 hb05 hsz
      gi_wp2_with (gi_at_builtin; refine wpListIn_append_own _ rfl _ _ 22 rfl w.heap.size 39 i0 (.slice none 0 0) 1 24 Tryd.underlying22 hi hz0 hz1 hz2 rfl (by decide) _ _ _ rfl ((hrow.alloc _).alloc _) ⟨X.heap.size + 1, 0, none⟩ 1 1 [.slice (some ⟨X.heap.size, 0, none⟩) 2 2] rfl rfl ?q1 ?q2 ?q3 ?q4 ?q5 ?_; rotate_left 5; intro v' w2 hown' hgrow _; obtain ⟨g', cap', rfl⟩ := ownsRow_succ hown'; obtain ⟨hv1, hv2, hr2, hk2, hb2⟩ := (hv.alloc (.cells #[.int .i64 (x.1 : Int), .int .i64 (x.2 : Int)] 3)).appended (by decide) (hrow.alloc _) (by rw [World.size_alloc]; exact Nat.le_succ_of_le hBs) (by omega) hown' hgrow; have hc1 := hv1.cell; have hf1 := hv1.frozen)
      case q1 =>
        have := cell_one_new (X.alloc (.cells #[.int .i64 (x.1 : Int), .int .i64 (x.2 : Int)] 3)) (.slice (some ⟨X.heap.size, 0, none⟩) 2 2) 39
        rw [World.size_alloc] at this
        exact this
      case q2 => intro z hz; rw [List.mem_singleton.1 hz]; rfl
      case q3 => unfold maxLen; omega
      case q4 => omega
      case q5 => simp; omega
      have hgt : ∀ (k : Nat) (c : Array Value) (t : TypeId) (fr : Nat × Nat), X.heap[k]? = some (Obj.cells c t fr) → t ≠ 39 → w2.heap[k]? = X.heap[k]? := fun k c t fr hk ht => by
        have hlt := (Array.getElem?_eq_some_iff.1 hk).1
        refine (hgrow.block k (by simp; omega) (fun e => ?_)).trans ((Below.heap_alloc _ _ _ (by simp; omega)).trans (Below.heap_alloc _ _ _ hlt))
        obtain ⟨c1, f1, hc1⟩ := row_cells hrow e.symm
        rw [hk] at hc1
        simp at hc1
        exact ht hc1.2.1
      have hin : Owns ((X.alloc (.cells #[.int .i64 (x.1 : Int), .int .i64 (x.2 : Int)] 3)).alloc (.cells #[.slice (some ⟨X.heap.size, 0, none⟩) 2 2] 39)) X.heap.size (.slice (some ⟨X.heap.size, 0, none⟩) 2 2) (prL x) :=
        (World.ownsRow_lit (base := X.heap.size) (e := 3) (size := 1) X #[.int .i64 (x.1 : Int), .int .i64 (x.2 : Int)] 2 (Nat.le_refl _) (by unfold maxLen; omega) (by simp)).alloc _
      have hb4 : Below X.heap.size X ((X.alloc (.cells #[.int .i64 (x.1 : Int), .int .i64 (x.2 : Int)] 3)).alloc (.cells #[.slice (some ⟨X.heap.size, 0, none⟩) 2 2] 39)) := ((Below.refl _ _).alloc (Nat.le_refl _) _).alloc (by simp) _
      have hps := hrows.push hBs hb4 hin hown' hgrow
      have hgs := grownBy_setCell' w2 (w1.heap.size + 1 + 1) (.slice (some ⟨g', 0, none⟩) (us.length + 1) cap')
      have hps2 := hps.other hgs hv1 (by decide) (by decide)
      have hbxX := hv.cell
      have hg2 := hgrow
      refine ⟨((KeepsOthers.alloc X _).trans hk2).from _, ⟨?_, ?_, ?_, ?_, fun k c t fr hk ht ht2 => ?_⟩, ⟨_, us ++ [.slice (some ⟨X.heap.size, 0, none⟩) 2 2], hv2, ?_⟩, hB.trans (((Below.refl w.heap.size X).alloc hBs _).trans hb2)⟩
      · exact (((Below.refl w.heap.size X).alloc hBs _).trans hb2).os
      · exact (((Below.refl w.heap.size X).alloc hBs _).trans hb2).tape
      · exact (((Below.refl w.heap.size X).alloc hBs _).trans hb2).output
      · exact ((KeepsOthers.alloc X (.cells #[.int .i64 (x.1 : Int), .int .i64 (x.2 : Int)] 3)).trans hk2).size
      · refine ((Below.heap_setCell _ _ _ _ (fun e => ?_)).trans (hgt k c t fr hk ht)).trans hk
        have hcc : X.heap[w1.heap.size + 1 + 1]? = some (.cells #[v] 22 (0, 0)) := hv
        rw [e, hcc] at hk
        simp at hk
        exact ht2 hk.2.1.symm
      · rw [List.map_append, List.map_singleton]
        exact hps2.wide (Nat.le_refl _) hgs.size
    case done =>
      rintro D ys X hD hys ⟨⟨v, us, hv, hrows⟩, hbX⟩ hKD
      have hc := hv.cell
      have hDw : w.heap.size ≤ D := by have := HW.out; omega
      clear hn0 hrow0 hb05 hsz
      gi_wp2
      refine ⟨by simp, .inl ⟨_, _, rfl, run_takeDeferred hKD, ?_⟩⟩
      have hgp := grownBy_putObj' X D (.deferred none)
      have hst := hrows.still (row := some D) hgp (fun r e => by cases e; exact ⟨_, hKD, rfl⟩)
      rw [HEQ.out, ← hys]
      refine ⟨.tuple #[v, .bool true], by simp [results, Tryd.f25, go_sem], v, us, rfl, hbX.trans (belowK_b (w := w) (Nat.le_refl _) X D _ _ hDw hKD rfl rfl), hst.wide (Nat.le_refl _) hgp.size⟩
    case stop =>
      rintro D c pre W _ _ h _
      exact h.elim

end Go.Proofs.YtahilcnmjnjcaaaDoor
