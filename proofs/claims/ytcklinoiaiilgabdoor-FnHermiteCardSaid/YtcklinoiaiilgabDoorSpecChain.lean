/-
  spec.l3Chain: polynomials one behind the other; spec.PolyHermite, PolyWay, PolyRing.
-/
import Derived.Test.YtcklinoiaiilgabDoorSeries
import Derived.Test.YtcklinoiaiilgabDoorSpecAdd
import Derived.Test.YtcklinoiaiilgabDoorSpecTimes
import Derived.OwnWalk
import Derived.Deep.AppendLies
namespace Go.Proofs.YtcklinoiaiilgabDoor
set_option linter.unusedVariables false
set_option linter.unusedSimpArgs false
open Go.RowKit

/-- The series as the specification makes it. -/
def stepOk (t : Nat → Int) (i : Nat) : Bool :=
  decide (addL (0 :: (chP t i).2) (mulL (chP t i).1 [-(t i)]) = (chP t (i + 1)).2) && within 1000000000000 (0 :: (chP t i).2) && within 1000000000000 (mulL (chP t i).1 [-(t i)]) &&
    within 100000 (chP t i).1 && decide ((chP t i).1.length ≤ 13) && decide ((chP t i).2.length = i + 1) && decide (-12 ≤ -(t i) ∧ -(t i) ≤ 0)
theorem full_step : ∀ i : Fin 12, stepOk tFull i.val = true := by decide +kernel
theorem way_step : ∀ i : Fin 12, stepOk tWay i.val = true := by decide +kernel

set_option maxRecDepth 100000 in
set_option maxHeartbeats 4000000 in
theorem chain_full (w : World) (n : Nat) (hn : n ≤ 12) : Calls Tryd.prog 66 #[.int .i64 (n : Int), .bool true] w (GivesAt w (chP tFull n).2) := by
  obtain ⟨i0, hi, hz0, hz1, hz2⟩ := info_parts infoInt
  go_enter Tryd.func66, Tryd.ntmps66
  go_wp2
  go_loopw [5, 6, 7] (fun l p i wr => ∃ k g1 c1 g2 c2 : Nat, k ≤ n ∧ i = .int .i64 k ∧ l = .slice (some ⟨g1, 0, none⟩) (chP tFull k).1.length c1 ∧ p = .slice (some ⟨g2, 0, none⟩) (chP tFull k).2.length c2 ∧ Below w.heap.size w wr ∧
      Owns wr w.heap.size (.slice (some ⟨g1, 0, none⟩) (chP tFull k).1.length c1) (chP tFull k).1 ∧ Owns wr w.heap.size (.slice (some ⟨g2, 0, none⟩) (chP tFull k).2.length c2) (chP tFull k).2)
    (fun _ _ i _ => n - (intOf i).toNat)
  case atStart =>
    refine ⟨0, w.heap.size, 0, w.heap.size + 1, 1, by omega, rfl, rfl, rfl, ((Below.refl _ _).alloc (Nat.le_refl _) _).alloc (by simp) _, ?_, ?_⟩
    · exact World.ownsRow.alloc (owns_empty w _ (Nat.le_refl _)) _
    · have := World.ownsRow_lit (base := w.heap.size) (e := 3) (size := 1) (w.alloc (.cells #[] 3)) #[.int .i64 1] 1 (by simp) (by simp [maxLen]) rfl
      have hs1 : (w.alloc (.cells #[] 3)).heap.size = w.heap.size + 1 := by simp
      rw [hs1] at this
      exact this
  case round =>
    obtain ⟨k, g1, c1, g2, c2, hk, rfl, rfl, rfl, hb, o1, o2⟩ := hrel
    by_cases hlt : k < n
    · have hst := full_step ⟨k, by omega⟩
      unfold stepOk at hst
      simp only [Bool.and_eq_true, decide_eq_true_eq] at hst
      obtain ⟨⟨⟨⟨⟨⟨hnext, hw1⟩, hw2⟩, hw3⟩, hl1⟩, hl2⟩, hc1, hc2⟩ := hst
      obtain ⟨l, hl⟩ : ∃ l, (chP tFull k).1 = l := ⟨_, rfl⟩
      obtain ⟨p, hp⟩ : ∃ p, (chP tFull k).2 = p := ⟨_, rfl⟩
      rw [hl, hp] at hnext
      rw [hp] at hw1 hl2 o2 ⊢
      rw [hl] at hw2 hw3 hl1 o1 ⊢
      have HB := Lib.hid hb
      have HN := Lib.hid hnext
      have hlp : p.length = k + 1 := hl2
      have o2' : wr.ownsRow w.heap.size 3 1 (.slice (some ⟨g2, 0, none⟩) p.length c2) p.length (vals p) := o2
      have hown0 : (wr.alloc (.cells #[Value.int .i64 0] 3)).ownsRow w.heap.size 3 1 (.slice (some ⟨wr.heap.size, 0, none⟩) 1 1) 1 (vals [0]) := by
        have := World.ownsRow_lit (base := w.heap.size) (e := 3) (size := 1) wr #[.int .i64 0] 1 hb.size (by simp [maxLen]) rfl
        exact this
      have hnews : ∀ (j : Nat) (u : Value), (vals p)[j]? = some u → (wr.alloc (.cells #[Value.int .i64 0] 3)).cell? ((⟨g2, 0, none⟩ : Addr).add j) = some u := by
        intro j u hu
        have hc := World.ownsRow.cells (g := g2) (World.ownsRow.alloc o2' (.cells #[Value.int .i64 0] 3)) rfl j u hu
        exact hc
      have hn1 : (vals p).length = p.length * 1 := by simp
      have h11 : ∀ u ∈ vals p, u.oneCell' = true := by intro u hu; simp only [vals, List.mem_map] at hu; obtain ⟨x, _, rfl⟩ := hu; rfl
      have hm0 : 0 < p.length := by omega
      have hm63 : 1 + p.length ≤ maxLen := by unfold maxLen; omega
      have hm8 : (1 + p.length) * 8 ≤ 140737488355328 := by omega
      have hbase : w.heap.size ≤ (wr.alloc (.cells #[Value.int .i64 0] 3)).heap.size := by have := hb.size; simp; omega
      have HN1 := Lib.hid hn1
      have H11 := Lib.hid h11
      have HNW := Lib.hid hnews
      have HL := Lib.hid hlp
      have HW := Lib.hid (And.intro hw1 (And.intro hw2 (And.intro hw3 (And.intro hl1 hl))))
      have HP := Lib.hid hp
      have O1 := Lib.hid o1
      have O2 := Lib.hid o2
      have hk12 : (k : Int) ≤ 12 := by omega
      clear hnext hw1 hw2 hw3 hl1 hl2 hc1 hc2 hl hp hlp o2 o2' o1 hnews hn1 h11 hb
      go_wp2_with (at_builtin; refine wpList_append_lies _ rfl _ _ 24 rfl w.heap.size 3 i0 (.int .i64 0) 1 8 Tryd.underlying24 hi hz0 hz1 hz2 rfl (by decide) (.slice (some ⟨wr.heap.size, 0, none⟩) 1 1) 1 (vals [0]) rfl hown0 ⟨g2, 0, none⟩ p.length c2 (vals p) rfl HN1.out HNW.out H11.out hm0 hm63 hm8 hbase _ rfl ?_; intro g3 c3 w1 hown hgrow _ _)
      have hb1 : Below w.heap.size w w1 := (HB.out.alloc HB.out.size _).grown hgrow hbase (fun j hj => by cases hj; exact HB.out.size)
      have q1 : Owns w1 w.heap.size (.slice (some ⟨g1, 0, none⟩) l.length c1) l := World.ownsRow.kept (World.ownsRow.alloc O1.out _) hgrow (.inr (by have := (O1.out.lt g1 rfl).2; simp [Value.ownBlock]; omega))
      have q2 : Owns w1 w.heap.size (.slice (some ⟨g2, 0, none⟩) p.length c2) p := World.ownsRow.kept (World.ownsRow.alloc O2.out _) hgrow (.inr (by have := (O2.out.lt g2 rfl).2; simp [Value.ownBlock]; omega))
      have q3 : Owns w1 w.heap.size (.slice (some ⟨g3, 0, none⟩) (1 + p.length) c3) (0 :: p) := by
        show World.ownsRow _ _ _ _ _ (0 :: p).length _
        rw [List.length_cons, Nat.add_comm p.length]
        exact hown
      have q4 : Owns (w1.alloc (.cells #[Value.int .i64 (-(k : Int))] 3)) w.heap.size (.slice (some ⟨w1.heap.size, 0, none⟩) 1 1) [-(tFull k)] := by
        have := World.ownsRow_lit (base := w.heap.size) (e := 3) (size := 1) w1 #[.int .i64 (-(k : Int))] 1 hb1.size (by simp [maxLen]) rfl
        exact this
      have hcw : within 100000 [-(tFull k)] = true := within_of fun i hi => by
        have : i = 0 := by simpa using hi
        subst this
        simp only [List.getElem_cons_zero, tFull]
        omega
      have hT := l3Times_any (w1.alloc (.cells #[Value.int .i64 (-(k : Int))] 3)) (.slice (some ⟨g1, 0, none⟩) l.length c1) (.slice (some ⟨w1.heap.size, 0, none⟩) 1 1) l [-(tFull k)] ((ints_of_owns q1).below (box1_below _ _)) (ints_of_owns q4) (by have := HW.out.2.2.2.1; omega) (by simp) HW.out.2.2.1 hcw
      have HT := Lib.hid hT
      have Q2 := Lib.hid (World.ownsRow.alloc q2 (.cells #[Value.int .i64 (-(k : Int))] 3))
      have Q3 := Lib.hid (World.ownsRow.alloc q3 (.cells #[Value.int .i64 (-(k : Int))] 3))
      have HB1 := Lib.hid (hb1.alloc hb1.size (.cells #[Value.int .i64 (-(k : Int))] 3))
      have hlm := mulL_len l [-(tFull k)]
      have hl13 := HW.out.2.2.2.1
      have hl50 : (mulL l [-(tFull k)]).length ≤ 50 := by simp at hlm; omega
      have hp50 : (0 :: p).length ≤ 50 := by have := HL.out; simp; omega
      clear hT q1 q2 q3 q4 hown hgrow hb1 hcw hlm hown0
      refine HT.out.mono ?_
      rintro e w2 ⟨g4, c4, rfl, hb2, ho4⟩
      have q5 : Ints w2 (.slice (some ⟨g3, 0, none⟩) (1 + p.length) c3) (0 :: p) := (ints_of_owns Q3.out).below hb2
      have hA := l2Add_any w2 (.slice (some ⟨g3, 0, none⟩) (1 + p.length) c3) _ (0 :: p) _ q5 (ints_of_owns ho4) hp50 hl50 HW.out.1 HW.out.2.1
      rw [HN.out] at hA
      have HA := Lib.hid hA
      have HB2 := Lib.hid (step_below HB1.out hb2)
      have Q2' := Lib.hid (owns_below Q2.out hb2)
      clear hA q5 ho4 hb2
      go_wp2_with fail
      refine HA.out.mono ?_
      rintro e w3 ⟨g5, c5, rfl, hb3, ho5⟩
      have HB3 := Lib.hid (step_below HB2.out hb3)
      have Q2'' := Lib.hid (owns_below Q2'.out hb3)
      have O5 := Lib.hid (owns_mono ho5 HB2.out.size)
      clear hb3 ho5
      go_wp2
      go_roundw
      case rel =>
        have e : (chP tFull (k + 1)).1 = p := HP.out
        refine ⟨k + 1, g2, c2, g5, c5, by omega, by go_num, ?_, rfl, HB3.out, ?_, O5.out⟩
        · rw [e]
        · rw [e]; exact Q2''.out
      case measure => simp [intOf]; omega
    · obtain rfl : k = n := by omega
      have HB := Lib.hid hb
      have O2 := Lib.hid o2
      clear hb o1 o2
      go_wp2
      go_ret
      exact ⟨g2, c2, rfl, HB.out, O2.out⟩

set_option maxRecDepth 100000 in
set_option maxHeartbeats 4000000 in
theorem chain_way (w : World) (n : Nat) (hn : n ≤ 12) : Calls Tryd.prog 66 #[.int .i64 (n : Int), .bool false] w (GivesAt w (chP tWay n).2) := by
  obtain ⟨i0, hi, hz0, hz1, hz2⟩ := info_parts infoInt
  go_enter Tryd.func66, Tryd.ntmps66
  go_wp2
  go_loopw [5, 6, 7] (fun l p i wr => ∃ k g1 c1 g2 c2 : Nat, k ≤ n ∧ i = .int .i64 k ∧ l = .slice (some ⟨g1, 0, none⟩) (chP tWay k).1.length c1 ∧ p = .slice (some ⟨g2, 0, none⟩) (chP tWay k).2.length c2 ∧ Below w.heap.size w wr ∧
      Owns wr w.heap.size (.slice (some ⟨g1, 0, none⟩) (chP tWay k).1.length c1) (chP tWay k).1 ∧ Owns wr w.heap.size (.slice (some ⟨g2, 0, none⟩) (chP tWay k).2.length c2) (chP tWay k).2)
    (fun _ _ i _ => n - (intOf i).toNat)
  case atStart =>
    refine ⟨0, w.heap.size, 0, w.heap.size + 1, 1, by omega, rfl, rfl, rfl, ((Below.refl _ _).alloc (Nat.le_refl _) _).alloc (by simp) _, ?_, ?_⟩
    · exact World.ownsRow.alloc (owns_empty w _ (Nat.le_refl _)) _
    · have := World.ownsRow_lit (base := w.heap.size) (e := 3) (size := 1) (w.alloc (.cells #[] 3)) #[.int .i64 1] 1 (by simp) (by simp [maxLen]) rfl
      have hs1 : (w.alloc (.cells #[] 3)).heap.size = w.heap.size + 1 := by simp
      rw [hs1] at this
      exact this
  case round =>
    obtain ⟨k, g1, c1, g2, c2, hk, rfl, rfl, rfl, hb, o1, o2⟩ := hrel
    by_cases hlt : k < n
    · have hst := way_step ⟨k, by omega⟩
      unfold stepOk at hst
      simp only [Bool.and_eq_true, decide_eq_true_eq] at hst
      obtain ⟨⟨⟨⟨⟨⟨hnext, hw1⟩, hw2⟩, hw3⟩, hl1⟩, hl2⟩, hc1, hc2⟩ := hst
      obtain ⟨l, hl⟩ : ∃ l, (chP tWay k).1 = l := ⟨_, rfl⟩
      obtain ⟨p, hp⟩ : ∃ p, (chP tWay k).2 = p := ⟨_, rfl⟩
      rw [hl, hp] at hnext
      rw [hp] at hw1 hl2 o2 ⊢
      rw [hl] at hw2 hw3 hl1 o1 ⊢
      have HB := Lib.hid hb
      have HN := Lib.hid hnext
      have hlp : p.length = k + 1 := hl2
      have o2' : wr.ownsRow w.heap.size 3 1 (.slice (some ⟨g2, 0, none⟩) p.length c2) p.length (vals p) := o2
      have hown0 : (wr.alloc (.cells #[Value.int .i64 0] 3)).ownsRow w.heap.size 3 1 (.slice (some ⟨wr.heap.size, 0, none⟩) 1 1) 1 (vals [0]) := by
        have := World.ownsRow_lit (base := w.heap.size) (e := 3) (size := 1) wr #[.int .i64 0] 1 hb.size (by simp [maxLen]) rfl
        exact this
      have hnews : ∀ (j : Nat) (u : Value), (vals p)[j]? = some u → (wr.alloc (.cells #[Value.int .i64 0] 3)).cell? ((⟨g2, 0, none⟩ : Addr).add j) = some u := by
        intro j u hu
        have hc := World.ownsRow.cells (g := g2) (World.ownsRow.alloc o2' (.cells #[Value.int .i64 0] 3)) rfl j u hu
        exact hc
      have hn1 : (vals p).length = p.length * 1 := by simp
      have h11 : ∀ u ∈ vals p, u.oneCell' = true := by intro u hu; simp only [vals, List.mem_map] at hu; obtain ⟨x, _, rfl⟩ := hu; rfl
      have hm0 : 0 < p.length := by omega
      have hm63 : 1 + p.length ≤ maxLen := by unfold maxLen; omega
      have hm8 : (1 + p.length) * 8 ≤ 140737488355328 := by omega
      have hbase : w.heap.size ≤ (wr.alloc (.cells #[Value.int .i64 0] 3)).heap.size := by have := hb.size; simp; omega
      have HN1 := Lib.hid hn1
      have H11 := Lib.hid h11
      have HNW := Lib.hid hnews
      have HL := Lib.hid hlp
      have HW := Lib.hid (And.intro hw1 (And.intro hw2 (And.intro hw3 (And.intro hl1 hl))))
      have HP := Lib.hid hp
      have O1 := Lib.hid o1
      have O2 := Lib.hid o2
      have hk12 : (k : Int) ≤ 12 := by omega
      clear hnext hw1 hw2 hw3 hl1 hl2 hc1 hc2 hl hp hlp o2 o2' o1 hnews hn1 h11 hb
      go_wp2_with (at_builtin; refine wpList_append_lies _ rfl _ _ 24 rfl w.heap.size 3 i0 (.int .i64 0) 1 8 Tryd.underlying24 hi hz0 hz1 hz2 rfl (by decide) (.slice (some ⟨wr.heap.size, 0, none⟩) 1 1) 1 (vals [0]) rfl hown0 ⟨g2, 0, none⟩ p.length c2 (vals p) rfl HN1.out HNW.out H11.out hm0 hm63 hm8 hbase _ rfl ?_; intro g3 c3 w1 hown hgrow _ _)
      have hb1 : Below w.heap.size w w1 := (HB.out.alloc HB.out.size _).grown hgrow hbase (fun j hj => by cases hj; exact HB.out.size)
      have q1 : Owns w1 w.heap.size (.slice (some ⟨g1, 0, none⟩) l.length c1) l := World.ownsRow.kept (World.ownsRow.alloc O1.out _) hgrow (.inr (by have := (O1.out.lt g1 rfl).2; simp [Value.ownBlock]; omega))
      have q2 : Owns w1 w.heap.size (.slice (some ⟨g2, 0, none⟩) p.length c2) p := World.ownsRow.kept (World.ownsRow.alloc O2.out _) hgrow (.inr (by have := (O2.out.lt g2 rfl).2; simp [Value.ownBlock]; omega))
      have q3 : Owns w1 w.heap.size (.slice (some ⟨g3, 0, none⟩) (1 + p.length) c3) (0 :: p) := by
        show World.ownsRow _ _ _ _ _ (0 :: p).length _
        rw [List.length_cons, Nat.add_comm p.length]
        exact hown
      have q4 : Owns (w1.alloc (.cells #[Value.int .i64 (-1)] 3)) w.heap.size (.slice (some ⟨w1.heap.size, 0, none⟩) 1 1) [-(tWay k)] := by
        have := World.ownsRow_lit (base := w.heap.size) (e := 3) (size := 1) w1 #[.int .i64 (-1)] 1 hb1.size (by simp [maxLen]) rfl
        exact this
      have hcw : within 100000 [-(tWay k)] = true := within_of fun i hi => by
        have : i = 0 := by simpa using hi
        subst this
        simp only [List.getElem_cons_zero, tWay]
        omega
      have hT := l3Times_any (w1.alloc (.cells #[Value.int .i64 (-1)] 3)) (.slice (some ⟨g1, 0, none⟩) l.length c1) (.slice (some ⟨w1.heap.size, 0, none⟩) 1 1) l [-(tWay k)] ((ints_of_owns q1).below (box1_below _ _)) (ints_of_owns q4) (by have := HW.out.2.2.2.1; omega) (by simp) HW.out.2.2.1 hcw
      have HT := Lib.hid hT
      have Q2 := Lib.hid (World.ownsRow.alloc q2 (.cells #[Value.int .i64 (-1)] 3))
      have Q3 := Lib.hid (World.ownsRow.alloc q3 (.cells #[Value.int .i64 (-1)] 3))
      have HB1 := Lib.hid (hb1.alloc hb1.size (.cells #[Value.int .i64 (-1)] 3))
      have hlm := mulL_len l [-(tWay k)]
      have hl13 := HW.out.2.2.2.1
      have hl50 : (mulL l [-(tWay k)]).length ≤ 50 := by simp at hlm; omega
      have hp50 : (0 :: p).length ≤ 50 := by have := HL.out; simp; omega
      clear hT q1 q2 q3 q4 hown hgrow hb1 hcw hlm hown0
      refine HT.out.mono ?_
      rintro e w2 ⟨g4, c4, rfl, hb2, ho4⟩
      have q5 : Ints w2 (.slice (some ⟨g3, 0, none⟩) (1 + p.length) c3) (0 :: p) := (ints_of_owns Q3.out).below hb2
      have hA := l2Add_any w2 (.slice (some ⟨g3, 0, none⟩) (1 + p.length) c3) _ (0 :: p) _ q5 (ints_of_owns ho4) hp50 hl50 HW.out.1 HW.out.2.1
      rw [HN.out] at hA
      have HA := Lib.hid hA
      have HB2 := Lib.hid (step_below HB1.out hb2)
      have Q2' := Lib.hid (owns_below Q2.out hb2)
      clear hA q5 ho4 hb2
      go_wp2_with fail
      refine HA.out.mono ?_
      rintro e w3 ⟨g5, c5, rfl, hb3, ho5⟩
      have HB3 := Lib.hid (step_below HB2.out hb3)
      have Q2'' := Lib.hid (owns_below Q2'.out hb3)
      have O5 := Lib.hid (owns_mono ho5 HB2.out.size)
      clear hb3 ho5
      go_wp2
      go_roundw
      case rel =>
        have e : (chP tWay (k + 1)).1 = p := HP.out
        refine ⟨k + 1, g2, c2, g5, c5, by omega, by go_num, ?_, rfl, HB3.out, ?_, O5.out⟩
        · rw [e]
        · rw [e]; exact Q2''.out
      case measure => simp [intOf]; omega
    · obtain rfl : k = n := by omega
      have HB := Lib.hid hb
      have O2 := Lib.hid o2
      clear hb o1 o2
      go_wp2
      go_ret
      exact ⟨g2, c2, rfl, HB.out, O2.out⟩

end Go.Proofs.YtcklinoiaiilgabDoor
