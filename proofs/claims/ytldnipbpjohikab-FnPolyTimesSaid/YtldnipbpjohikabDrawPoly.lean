/-
  A drawn polynomial: spec.l91Poly gives some list of at most 7 numbers, which the call owns; the reader's block is written.
-/
import Derived.Test.YtldnipbpjohikabDraw
import Derived.Test.YtldnipbpjohikabSpecDer
import Derived.Deep.RegionHeld3
import Derived.Deep.RegionLaw
namespace Go.Proofs.Ytldnipbpjohikab
open Go.RowKit

theorem Bytes.within {w w' : World} {r M : Nat} {A : Option Addr} (h : Bytes w r A M) (hw : Within r (r + 1) w w') : Bytes w' r A M := fun i hi => by
  obtain ⟨b, off, x, hA, hb, hc, hx⟩ := h i hi
  have hlt : b < w.heap.size := World.block_lt_of_cell? w _ hc
  exact ⟨b, off, x, hA, hb, (World.cell?_of_block (a := ⟨b, off + i, none⟩) (hw.block b hlt (by omega))).trans hc, hx⟩

theorem within_alloc (w : World) (o : Obj) (r : Nat) : Within r (r + 1) w (w.alloc o) := by
  have b := (Below.refl w.heap.size w).alloc (Nat.le_refl _) o
  exact ⟨b.os, b.tape, b.output, b.size, fun k hk _ => b.block k hk⟩

theorem owns_within {W W' : World} {r lo n : Nat} {v : Value} {cs : List Value} (h : W.ownsRow lo 3 1 v n cs) (hw : Within r (r + 1) W W') (hr : r < lo) : W'.ownsRow lo 3 1 v n cs :=
  ((OwnsAt.of h).kept hw (.inr hr)).1

theorem Within.grown {w W W1 : World} {r : Nat} {row : Option Nat} (h : Within r (r + 1) w W) (hg : W.grownBy W1 row) (hr : ∀ k, row = some k → w.heap.size ≤ k) : Within r (r + 1) w W1 :=
  ⟨hg.os.trans h.os, hg.tape.trans h.tape, hg.output.trans h.output, Nat.le_trans h.size hg.size,
    fun k hk ho => (hg.block k (Nat.lt_of_lt_of_le hk h.size) (fun e => by have := hr k e.symm; omega)).trans (h.block k hk ho)⟩

/-- The reader, at most q places on; nothing else of what there was has turned. -/
def Rdr (w : World) (r M cap : Nat) (A : Option Addr) (q : Nat) (W : World) : Prop :=
  (∃ p, p ≤ q ∧ W.heap[r]? = some (.cells (rcells A M cap p) 50 (0, 0))) ∧ Within r (r + 1) w W

theorem Rdr.more {w W : World} {r M cap q q' : Nat} {A : Option Addr} (h : Rdr w r M cap A q W) (hq : q ≤ q') : Rdr w r M cap A q' W := by
  obtain ⟨⟨p, hp, hr⟩, hw⟩ := h
  exact ⟨⟨p, by omega, hr⟩, hw⟩
theorem Rdr.alloc {w W : World} {r M cap q : Nat} {A : Option Addr} (h : Rdr w r M cap A q W) (hrw : r < w.heap.size) (o : Obj) : Rdr w r M cap A q (W.alloc o) := by
  obtain ⟨⟨p, hp, hr⟩, hw⟩ := h
  refine ⟨⟨p, hp, ?_⟩, hw.trans (within_alloc W o r)⟩
  exact (((Below.refl W.heap.size W).alloc (Nat.le_refl _) o).block r (by have := hw.size; omega)).trans hr
theorem Rdr.grown {w W W1 : World} {r M cap q : Nat} {A : Option Addr} {row : Option Nat} (h : Rdr w r M cap A q W) (hrw : r < w.heap.size) (hg : W.grownBy W1 row) (hr : ∀ k, row = some k → w.heap.size ≤ k) : Rdr w r M cap A q W1 := by
  obtain ⟨⟨p, hp, hr0⟩, hw⟩ := h
  refine ⟨⟨p, hp, ?_⟩, hw.grown hg hr⟩
  exact (hg.block r (by have := hw.size; omega) (fun e => by have := hr r e.symm; omega)).trans hr0
theorem Rdr.below {w W W1 : World} {r M cap q : Nat} {A : Option Addr} (h : Rdr w r M cap A q W) (hrw : r < w.heap.size) (hb : Below W.heap.size W W1) : Rdr w r M cap A q W1 :=
  h.grown hrw (row := none) (grown_of_below hb) (fun k e => by cases e)
theorem Rdr.drewN {w W : World} {r M cap q : Nat} {A : Option Addr} (h : Rdr w r M cap A q W) (n : Nat) : Rdr w r M cap A q (W.drewN n) := ⟨h.1, h.2.drewN n⟩

theorem rdr_pick {w W : World} {r M cap q m : Nat} {A : Option Addr} (h : Rdr w r M cap A q W) (hxr : Bytes w r A M) (hM : M ≤ 2000) (hq : q ≤ 1000) (hm : 1 ≤ m) (hm2 : m ≤ 1000) :
    Calls Try.prog 39 #[.pointer (some ⟨r, 0, none⟩), .int .i64 m] W fun e W' => ∃ v : Nat, v < m ∧ e = .returned (.int .i64 v) ∧ Rdr w r M cap A (q + 1) W' ∧ Within r (r + 1) W W' := by
  obtain ⟨⟨p, hp, hr⟩, hw⟩ := h
  refine (pick_any W r p m M cap A hr (hxr.within hw) (by omega) hM hm hm2).mono ?_
  rintro e W' ⟨v, hv, rfl, hr4, hw4⟩
  exact ⟨v, hv, rfl, ⟨⟨p + 1, by omega, hr4⟩, hw.trans hw4⟩, hw4⟩

set_option maxRecDepth 100000 in
set_option maxHeartbeats 4000000 in
theorem poly_any (w : World) (r M cap q : Nat) (A : Option Addr) (hr : Rdr w r M cap A q w) (hxr : Bytes w r A M) (hM : M ≤ 2000) (hrw : r < w.heap.size) (hq : q ≤ 500) :
    Calls Try.prog 24 #[.pointer (some ⟨r, 0, none⟩)] w fun e w' => ∃ v xs, e = .returned v ∧ xs.length ≤ 7 ∧ Owns w' w.heap.size v xs ∧ Rdr w r M cap A (q + 20) w' := by
  obtain ⟨i0, hi, hz0, hz1, hz2⟩ := info_parts infoInt
  have HX := Lib.hid hxr
  have hr1 := hr.alloc hrw (.cells #[] 3)
  go_enter Try.func24, Try.ntmps24
  go_wp2_with fail
  refine (rdr_pick (m := 7) hr1 HX.out hM (by omega) (by omega) (by omega)).mono ?_
  rintro e w1 ⟨n, hn, rfl, hr2, hw2⟩
  have hsz1 := hr2.2.size
  have ho2 : w1.ownsRow w.heap.size 3 1 (.slice (some ⟨w.heap.size, 0, none⟩) 0 0) 0 (vals []) := owns_within (owns_empty w w.heap.size (Nat.le_refl _)) hw2 hrw
  clear hr1
  go_wp2
  go_loopw [3, 5] (fun u i wr => ∃ (k g c : Nat) (xs : List Int), k ≤ n ∧ i = .int .i64 k ∧ u = .slice (some ⟨g, 0, none⟩) k c ∧ xs.length = k ∧ Rdr w r M cap A (q + 1 + k) wr ∧ wr.ownsRow w.heap.size 3 1 (.slice (some ⟨g, 0, none⟩) k c) k (vals xs))
    (fun _ i _ => n - (intOf i).toNat)
  case atStart => exact ⟨0, w.heap.size, 0, [], by omega, rfl, rfl, rfl, hr2, ho2⟩
  case round =>
    clear hr2 ho2 hw2 hsz1
    obtain ⟨k, g, c, xs, hk, rfl, rfl, hl, hrd, ho⟩ := hrel
    have HRD := Lib.hid hrd
    have HO := Lib.hid ho
    have HL := Lib.hid hl
    clear hrd ho hl
    by_cases hlt : k < n
    · go_wp2_with fail
      refine (rdr_pick (m := 11) HRD.out HX.out hM (by omega) (by omega) (by omega)).mono ?_
      rintro e w2 ⟨x, hx, rfl, hr3, hw3⟩
      have ho3 := owns_within HO.out hw3 hrw
      have hsz := hr3.2.size
      have hbase : w.heap.size ≤ (w2.alloc (.cells #[Value.int .i64 ((x : Int) - 5)] 3)).heap.size := by simp; omega
      have hm64 : k + 1 ≤ maxLen := by unfold maxLen; omega
      have hm8 : (k + 1) * 8 ≤ 140737488355328 := by omega
      go_wp2_with (at_builtin; refine wpList_append_lies _ rfl _ _ 23 rfl w.heap.size 3 i0 (.int .i64 0) 1 8 Try.underlying23 hi hz0 hz1 hz2 rfl (by decide) _ _ _ rfl (ho3.alloc _) ⟨w2.heap.size, 0, none⟩ 1 1 [.int .i64 ((x : Int) - 5)] rfl rfl (cell_one_new _ _ _) (by simp [Value.oneCell']) (by decide) hm64 hm8 hbase _ rfl ?_; intro g2 cap2 w3 hown hgrow _ _)
      go_roundw
      case rel =>
        refine ⟨k + 1, g2, cap2, xs ++ [(x : Int) - 5], by omega, by go_num, rfl, by simp [HL.out], ?_, ?_⟩
        · exact ((hr3.alloc hrw _).grown hrw hgrow (fun k hk => (HO.out.lt k hk).1)).more (by omega)
        · rw [vals_snoc]; exact hown
      case measure => simp [intOf]; omega
    · obtain rfl : k = n := by omega
      have ho4 : Owns wr w.heap.size (.slice (some ⟨g, 0, none⟩) xs.length c) xs := by
        show World.ownsRow _ _ _ _ _ xs.length _
        rw [HL.out]; exact HO.out
      have hd := l3Done_any wr g 0 c xs (ints_of_owns ho4) (by rw [HL.out]; omega) (by
        rcases ho4.2 with ⟨hv, _⟩ | ⟨g', cap', cur, hv, _, _, hnc, _⟩
        · cases hv
        · cases hv; exact hnc) (cap_of ho4)
      rw [HL.out] at hd
      have HD := Lib.hid hd
      clear hd ho4
      go_wp2_with fail
      refine HD.out.mono ?_
      rintro e w2 ⟨y, rfl, hb2, ho5⟩
      have hr4 := HRD.out.below hrw hb2
      have hO2 : w2.ownsRow w.heap.size 3 1 (.slice (some ⟨g, 0, none⟩) k c) k (vals xs) := owns_below HO.out hb2
      have HR4 := Lib.hid hr4
      have HO2 := Lib.hid hO2
      have HO5 := Lib.hid ho5
      have hwsz : w.heap.size ≤ wr.heap.size := HRD.out.2.size
      clear hr4 hO2 ho5
      cases hk : okPoly (trim xs) with
      | true =>
        have HK := Lib.hid hk
        clear hk
        go_wp2_with fail
        refine (rdr_pick (m := 30) HR4.out HX.out hM (by omega) (by omega) (by omega)).mono ?_
        rintro e w3 ⟨x, hx, rfl, hr5, hw3⟩
        by_cases hx0 : x = 0
        · subst hx0
          clear hx
          go_wp2_with fail
          have hr6 := hr5.alloc hrw (.cells #[Value.int .i64 0, Value.int .i64 100001, Value.int .i64 1000000001] 3)
          refine (rdr_pick (m := 3) hr6 HX.out hM (by omega) (by omega) (by omega)).mono ?_
          rintro e w4 ⟨v, hv, rfl, hr7, hw4⟩
          have hsz3 := hr5.2.size
          obtain ⟨z, hz⟩ : ∃ z, w4.cell? ⟨w3.heap.size, v, none⟩ = some (.int .i64 z) := by
            have hblk := (hw4.block w3.heap.size (by simp) (.inr (by omega))).trans (World.alloc_heap_new _ _)
            match v, hv with
            | 0, _ => exact ⟨0, by rw [cell_of_row _ _ _ _ _ _ hblk]; rfl⟩
            | 1, _ => exact ⟨100001, by rw [cell_of_row _ _ _ _ _ _ hblk]; rfl⟩
            | 2, _ => exact ⟨1000000001, by rw [cell_of_row _ _ _ _ _ _ hblk]; rfl⟩
          have ho6 := owns_within (World.ownsRow.alloc (w := w3) (owns_within HO2.out hw3 hrw) (.cells #[Value.int .i64 0, Value.int .i64 100001, Value.int .i64 1000000001] 3)) hw4 hrw
          have hsz4 := hr7.2.size
          have hbase : w.heap.size ≤ (w4.alloc (.cells #[Value.int .i64 z] 3)).heap.size := by simp; omega
          have hm64 : k + 1 ≤ maxLen := by unfold maxLen; omega
          have hm8 : (k + 1) * 8 ≤ 140737488355328 := by omega
          have hv3 : (v : Int) < 3 := by omega
          clear hr6
          go_wp2_with (at_builtin; refine wpList_append_lies _ rfl _ _ 23 rfl w.heap.size 3 i0 (.int .i64 0) 1 8 Try.underlying23 hi hz0 hz1 hz2 rfl (by decide) _ _ _ rfl (ho6.alloc _) ⟨w4.heap.size, 0, none⟩ 1 1 [.int .i64 z] rfl rfl (cell_one_new _ _ _) (by simp [Value.oneCell']) (by decide) hm64 hm8 hbase _ rfl ?_; intro g2 cap2 w5 hown hgrow _ _)
          go_ret
          refine ⟨_, xs ++ [z], rfl, by rw [List.length_append, HL.out]; simp; omega, ?_, ((hr7.alloc hrw _).grown hrw hgrow (fun k hk => (ho6.lt k hk).1)).more (by omega)⟩
          show World.ownsRow _ _ _ _ _ (xs ++ [z]).length _
          rw [List.length_append, HL.out, vals_snoc]
          exact hown
        · have hx1 : ((x : Int) == 0) = false := by rw [beq_eq_false_iff_ne]; omega
          go_wp2
          go_ret
          refine ⟨y, toldList (trim xs), rfl, ?_, ?_, hr5.more (by omega)⟩
          · unfold toldList; rw [if_pos HK.out]; have := trim_len xs; have := HL.out; omega
          · exact owns_within (owns_mono HO5.out hwsz) hw3 hrw
      | false =>
        go_wp2_with fail
        have hr6 := HR4.out.alloc hrw (.cells #[Value.int .i64 0, Value.int .i64 100001, Value.int .i64 1000000001] 3)
        refine (rdr_pick (m := 3) hr6 HX.out hM (by omega) (by omega) (by omega)).mono ?_
        rintro e w4 ⟨v, hv, rfl, hr7, hw4⟩
        have hsz3 := HR4.out.2.size
        obtain ⟨z, hz⟩ : ∃ z, w4.cell? ⟨w2.heap.size, v, none⟩ = some (.int .i64 z) := by
          have hblk := (hw4.block w2.heap.size (by simp) (.inr (by omega))).trans (World.alloc_heap_new _ _)
          match v, hv with
          | 0, _ => exact ⟨0, by rw [cell_of_row _ _ _ _ _ _ hblk]; rfl⟩
          | 1, _ => exact ⟨100001, by rw [cell_of_row _ _ _ _ _ _ hblk]; rfl⟩
          | 2, _ => exact ⟨1000000001, by rw [cell_of_row _ _ _ _ _ _ hblk]; rfl⟩
        have ho6 := owns_within (World.ownsRow.alloc (w := w2) (HO2.out) (.cells #[Value.int .i64 0, Value.int .i64 100001, Value.int .i64 1000000001] 3)) hw4 hrw
        have hsz4 := hr7.2.size
        have hbase : w.heap.size ≤ (w4.alloc (.cells #[Value.int .i64 z] 3)).heap.size := by simp; omega
        have hm64 : k + 1 ≤ maxLen := by unfold maxLen; omega
        have hm8 : (k + 1) * 8 ≤ 140737488355328 := by omega
        have hv3 : (v : Int) < 3 := by omega
        clear hr6
        go_wp2_with (at_builtin; refine wpList_append_lies _ rfl _ _ 23 rfl w.heap.size 3 i0 (.int .i64 0) 1 8 Try.underlying23 hi hz0 hz1 hz2 rfl (by decide) _ _ _ rfl (ho6.alloc _) ⟨w4.heap.size, 0, none⟩ 1 1 [.int .i64 z] rfl rfl (cell_one_new _ _ _) (by simp [Value.oneCell']) (by decide) hm64 hm8 hbase _ rfl ?_; intro g2 cap2 w5 hown hgrow _ _)
        go_ret
        refine ⟨_, xs ++ [z], rfl, by rw [List.length_append, HL.out]; simp; omega, ?_, ((hr7.alloc hrw _).grown hrw hgrow (fun k hk => (ho6.lt k hk).1)).more (by omega)⟩
        show World.ownsRow _ _ _ _ _ (xs ++ [z]).length _
        rw [List.length_append, HL.out, vals_snoc]
        exact hown

end Go.Proofs.Ytldnipbpjohikab
