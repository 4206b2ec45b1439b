/-
  (impl.market).isStable.
-/
import Derived.Test.YtahilcnmjnjcaaaDoorBlockIt
import Derived.Test.YtahilcnmjnjcaaaDoorSpecStab
import Derived.Test.YtahilcnmjnjcaaaDoorMarks
import Derived.RangeFuncWrites
namespace Go.Proofs.YtahilcnmjnjcaaaDoor
set_option linter.unusedVariables false
set_option linter.unusedSimpArgs false
open BI
open Go.RowKit Go.Shelf
attribute [local go_sem] Oper.semAt_some

theorem KeepsC.trans {X Y Z : World} (h : KeepsC X Y) (k : KeepsC Y Z) : KeepsC X Z :=
  ⟨k.os.trans h.os, k.tape.trans h.tape, k.output.trans h.output, Nat.le_trans h.size k.size, fun i o hi ho => k.same i o (h.same i o hi ho) ho⟩
theorem keepsC_putObj (W : World) (l : Nat) (o o' : Obj) (hl : W.heap[l]? = some o) (ho : o.isCells = false) : KeepsC W (W.putObj l o') := by
  have hg := grownBy_putObj' W l o'
  refine ⟨hg.os, hg.tape, hg.output, hg.size, fun k x hk hx => ?_⟩
  refine (hg.block k (Array.getElem?_eq_some_iff.1 hk).1 (fun e => ?_)).trans hk
  cases e
  rw [hl] at hk
  cases hk
  rw [ho] at hx
  cases hx
theorem Ints.keepsC {X Y : World} {v : Value} {xs : List Int} (h : Ints X v xs) (k : KeepsC X Y) : Ints Y v xs := by
  obtain ⟨A, cap, hv, hm, hc⟩ := h
  refine ⟨A, cap, hv, hm, fun i hi => ?_⟩
  obtain ⟨b, off, hA, hcell⟩ := hc i hi
  exact ⟨b, off, hA, k.cell hcell⟩
theorem IntRows.keepsC {X Y : World} {v : Value} {xss : List (List Int)} (h : IntRows X v xss) (k : KeepsC X Y) : IntRows Y v xss := by
  obtain ⟨A, cap, us, hv, hm, hl, hc⟩ := h
  refine ⟨A, cap, us, hv, hm, hl, fun i hi u hu => ?_⟩
  obtain ⟨⟨b, off, hA, hcell⟩, hx⟩ := hc i hi u hu
  exact ⟨⟨b, off, hA, k.cell hcell⟩, hx.keepsC k⟩
theorem BlkRd.keepsC {X Y : World} {Bp Bm : Nat} {a1 a2 a3 a4 pv : Value} {ls rs : List (List Int)} {ps : List Int} (h : BlkRd X Bp Bm a1 a2 a3 a4 pv ls rs ps) (k : KeepsC X Y) : BlkRd Y Bp Bm a1 a2 a3 a4 pv ls rs ps :=
  ⟨k.same _ _ h.mkt rfl, k.cell h.pb, h.left.keepsC k, h.right.keepsC k, h.ints.keepsC k⟩

theorem stab_leave (w : World) (want b : Bool) (hb : want = b) (tmps : Array Value) (hp : tmps[4]? = some (.pointer (some ⟨w.heap.size + 1, 0, none⟩))) (ds : List Deferred) (W : World)
    (hM : Marks w.heap.size ds W) (hB : Below w.heap.size w W) (hx : Boxed W (w.heap.size + 1) 4 (.bool b)) :
    bodyPostM Fence.wide 9 Tryd.prog Tryd.f46 (fun e w' => e = .returned (.bool want) ∧ Below w.heap.size w w') .ret { tmps := tmps, defers := ds } W := by
  refine leaves_marks (F := Fence.wide) (n := 9) w.heap.size (fun W => Below w.heap.size w W ∧ Boxed W (w.heap.size + 1) 4 (.bool b)) ?_ ?_ ds W hM ⟨hB, hx⟩
  · rintro W D hD hk ⟨h1, h2⟩
    refine ⟨below_shut h1 hD hk, (World.putObj_heap_other (fun e => ?_)).trans h2⟩
    have h2' : W.heap[w.heap.size + 1]? = some (.cells #[.bool b] 4 (0, 0)) := h2
    rw [e, hk] at h2'
    cases h2'
  · rintro W ⟨h1, h2⟩
    have hc := h2.cell
    refine ⟨.bool b, ?_, by rw [hb], h1⟩
    simp [results, Tryd.f46, go_sem, hp, hc]

set_option maxRecDepth 100000 in
set_option maxHeartbeats 4000000 in
theorem stable_any (w : World) (A1 : Option Addr) (n1 c1 : Nat) (A2 : Option Addr) (n2 c2 : Nat) (A3 : Option Addr) (n3 c3 : Nat) (A4 : Option Addr) (n4 c4 : Nat) (Ap : Option Addr) (np cp : Nat) (ls rs : List (List Int)) (ps : List Int) (hok : pairOk ls rs ps = true)
    (hl : IntRows w (.slice A2 n2 c2) (ls.map backOf)) (hr : IntRows w (.slice A4 n4 c4) (rs.map backOf)) (hp : Ints w (.slice Ap np cp) ps) :
    Calls Tryd.prog 46 #[.agg (four (.slice A1 n1 c1) (.slice A2 n2 c2) (.slice A3 n3 c3) (.slice A4 n4 c4)), .slice Ap np cp] w fun e w' => e = .returned (.bool (stableB ls rs ps)) ∧ Below w.heap.size w w' := by
  obtain ⟨W0, hW0⟩ : ∃ W0, (w.alloc (.cells (four (.slice A1 n1 c1) (.slice A2 n2 c2) (.slice A3 n3 c3) (.slice A4 n4 c4)) 60)).alloc (.cells #[.bool false] 4) = W0 := ⟨_, rfl⟩
  have hb0 : Below w.heap.size w W0 := by rw [← hW0]; exact ((Below.refl _ _).alloc (Nat.le_refl _) _).alloc (by simp) _
  have hbox : W0.heap[w.heap.size]? = some (.cells (four (.slice A1 n1 c1) (.slice A2 n2 c2) (.slice A3 n3 c3) (.slice A4 n4 c4)) 60 (0, 0)) := by rw [← hW0]; exact heap_two_old _ _ _
  have hbx0 : Boxed W0 (w.heap.size + 1) 4 (.bool false) := by rw [← hW0]; exact heap_two_new _ _ _
  obtain ⟨y0, y1, y2, y3, _⟩ := four_cells hbox
  obtain ⟨W1, hW1⟩ : ∃ W1, (W0.alloc (.cells (four (.slice A1 n1 c1) (.slice A2 n2 c2) (.slice A3 n3 c3) (.slice A4 n4 c4)) 60)).alloc (.cells #[.slice Ap np cp] 66) = W1 := ⟨_, rfl⟩
  have hb01 : Below W0.heap.size W0 W1 := by rw [← hW1]; exact ((Below.refl _ _).alloc (Nat.le_refl _) _).alloc (by simp) _
  have hrd : BlkRd W1 (W0.heap.size + 1) W0.heap.size (.slice A1 n1 c1) (.slice A2 n2 c2) (.slice A3 n3 c3) (.slice A4 n4 c4) (.slice Ap np cp) ls rs ps :=
    ⟨by rw [← hW1]; exact heap_two_old _ _ _, by rw [cell_of_row _ _ _ _ _ _ (show W1.heap[W0.heap.size + 1]? = some (.cells #[.slice Ap np cp] 66 (0, 0)) by rw [← hW1]; exact heap_two_new _ _ _)]; rfl, (hl.below hb0).below hb01, (hr.below hb0).below hb01, (hp.below hb0).below hb01⟩
  have hbx1 : Boxed W1 (w.heap.size + 1) 4 (.bool false) := kept_obj hb01 hbx0
  have hb1 := step_below hb0 hb01
  have hs0 : w.heap.size + 1 < W0.heap.size := (Array.getElem?_eq_some_iff.1 hbx0).1
  have hs1 := hb01.size
  have hse : stableB ls rs ps = (blocksOf ls rs ps).isEmpty := by unfold stableB; rw [hok]; rfl
  have HSE := Lib.hid hse
  have HRD := Lib.hid hrd
  have HB1 := Lib.hid (And.intro hb1 (And.intro hbx1 (And.intro hs0 hs1)))
  clear hl hr hp hb0 hbox hbx0 hb01 hrd hbx1 hb1 hs0 hs1 hse
  refine (callsIn_wide (n := 9)).1 ?_
  refine callsIn_of_wp_marks Tryd.func46 rfl trivial ?_ rfl
  simp only [Tryd.ntmps46, List.size_toArray, List.length_cons, List.length_nil, Nat.reduceAdd, Nat.reduceSub, Array.replicate_succ, Array.replicate_zero, List.push_toArray, List.append_toArray, List.nil_append, List.cons_append]
  gi_wp2_with (refine ⟨trivial, ?_⟩; gi_at_call 56; refine (callsIn_wide.2 (blocking_any _ _ _ _ _ Ap np cp)).mono ?_; rintro e w' ⟨rfl, rfl⟩)
  clear hW0 hW1 y0 y1 y2 y3
  obtain ⟨hb1, hbx1, hs0, hs1⟩ := HB1.out
  refine wpIn_rangeFunc_ownG rfl (by decide) (gf := 78) (lb := #[.pointer (some ⟨W0.heap.size + 1, 0, none⟩), .pointer (some ⟨W0.heap.size, 0, none⟩)]) rfl trivial (enters_of Tryd.func78 (by kernel_rfl) rfl)
    (blocking_stops (9 - 1) (by decide) (W0.heap.size + 1) W0.heap.size A1 n1 c1 A2 n2 c2 A3 n3 c3 A4 n4 c4 Ap np cp ls rs ps hok KeepsC (fun X Y kb k h h2 => ⟨h.keepsC k, h2.keepsC k⟩) W1 HRD.out)
    (fun h k => KeepsC.trans h k) (fun W l o o' _ hl ho _ => keepsC_putObj W l o o' hl ho) (Below.refl _ _) (fun _ => rfl)
    (fun pre X => pre = [] ∧ Boxed X (w.heap.size + 1) 4 (.bool false) ∧ Below w.heap.size w X)
    (fun c pre X => (c = .ret ∧ pre ≠ []) ∧ Boxed X (w.heap.size + 1) 4 (.bool false) ∧ Below w.heap.size w X)
    (fun pre X Y row hs hg hr => ⟨hs.1, (hg.block _ hs.2.1.lt (fun e => by have := (hr _ e.symm).1; omega)).trans hs.2.1, hs.2.2.grown hg hs.2.2.size (fun k e => by have := (hr k e).1; omega)⟩)
    (fun c pre X Y row hs hg hr => ⟨hs.1, (hg.block _ hs.2.1.lt (fun e => by have := (hr _ e.symm).1; omega)).trans hs.2.1, hs.2.2.grown hg hs.2.2.size (fun k e => by have := (hr k e).1; omega)⟩)
    ⟨rfl, hbx1, hb1⟩
    (fun x => { tmps := #[.agg (four (.slice A1 n1 c1) (.slice A2 n2 c2) (.slice A3 n3 c3) (.slice A4 n4 c4)), .slice Ap np cp, .pointer (some ⟨w.heap.size, 0, none⟩), undef, .pointer (some ⟨w.heap.size + 1, 0, none⟩), .agg #[.slice A1 n1 c1, .slice A2 n2 c2, .slice A3 n3 c3, .slice A4 n4 c4], .slice Ap np cp, blockSeq (W0.heap.size + 1) W0.heap.size, .int .i64 (x.1 : Int), .int .i64 (x.2 : Int)], defers := [] })
    ?assign ?body ?done ?stop
  case assign =>
    intro l x X K hK
    gi_wp2
    first
      | exact hK
      | simpa using hK
      | simpa [Array.zip, Array.zipWith] using hK
      | (refine (congrArg (fun t => K { tmps := t, defers := [] } X) ?_).mpr hK; decide)
      | (refine (congrArg (fun t => K { tmps := t, defers := [] } X) ?_).mpr hK; kernel_rfl)
  case body =>
    rintro l pre x X ⟨rfl, hbx, hbX⟩ hlen
    have hcr := hbx.cell
    have hfr := hbx.frozen
    have HX := Lib.hid (And.intro hbx hbX)
    clear hbx hbX hb1 hbx1
    gi_wp2
    refine ⟨(KeepsOthers.setCell _ _ _).from _, ⟨rfl, by simp⟩, HX.out.1.set _, HX.out.2.setCell (p := ⟨w.heap.size + 1, 0, none⟩) (by show w.heap.size ≤ w.heap.size + 1; omega) _⟩
  case done =>
    rintro D ys X hD hys ⟨rfl, hbx, hbX⟩ hKD
    have hcr := hbx.cell
    have hfr := hbx.frozen
    have hst : stableB ls rs ps = true := by rw [HSE.out, ← hys]; rfl
    have HT := Lib.hid hst
    have HX := Lib.hid (And.intro hbx hbX)
    have hDw : w.heap.size ≤ D := by omega
    clear hst hbX hb1 hbx1 hys
    gi_wp2
    exact stab_leave w _ true HT.out _ (by rfl) _ _ (((Marks.nil _ _).cons hDw hKD (by simp)).grown (grownBy_setCell' _ _ _) HX.out.1 rfl) (HX.out.2.setCell (p := ⟨w.heap.size + 1, 0, none⟩) (by show w.heap.size ≤ w.heap.size + 1; omega) _) (HX.out.1.set _)
  case stop =>
    rintro D c pre X hD hpre ⟨⟨rfl, hne⟩, hbx, hbX⟩ hKD
    have hst : stableB ls rs ps = false := by
      rw [HSE.out]
      cases he : blocksOf ls rs ps with
      | nil => rw [he] at hpre; exact absurd (List.prefix_nil.1 hpre) hne
      | cons a t => rfl
    have HN := Lib.hid hst
    have hDw : w.heap.size ≤ D := by omega
    clear hst hb1 hbx1
    gi_wp2
    exact stab_leave w _ false HN.out _ (by rfl) _ _ ((Marks.nil _ _).cons hDw hKD (by simp)) hbX hbx

end Go.Proofs.YtahilcnmjnjcaaaDoor
