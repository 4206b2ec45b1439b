/-
  GRAPHS OUT OF EDGES: plain functions; the specification's GraphOf.
-/
import Derived.Test.YthafhcocgohjaabDoorRowsPush
import Derived.StillTailTactics
import Derived.Deep.QuietTactic
import Derived.BigQuiet
import Derived.Deep.RegionLaw
import Derived.Outline
import Derived.Test.YthafhcocgohjaabDoorGives
import Derived.Test.YthafhcocgohjaabDoorCore1
namespace Go.Proofs.YthafhcocgohjaabDoor
set_option linter.unusedVariables false
set_option linter.unusedSimpArgs false
open Go.RowKit

/-- Whether a list is an edge among n nodes. -/
def goodE (n : Nat) (e : List Int) : Bool := decide (e.length = 2 ∧ (0 ≤ e.getD 0 0 ∧ e.getD 0 0 < n) ∧ (0 ≤ e.getD 1 0 ∧ e.getD 1 0 < n) ∧ e.getD 0 0 ≠ e.getD 1 0)
/-- What the first edges link. -/
def linkTo (xss : List (List Int)) : Nat → Nat → Nat
  | 0 => fun _ => 0
  | k + 1 => lnk (linkTo xss k) ((xss.getD k []).getD 0 0).toNat ((xss.getD k []).getD 1 0).toNat
def goodTo (n : Nat) (xss : List (List Int)) (k : Nat) : Bool := (xss.take k).all (goodE n)
theorem goodTo_succ {n : Nat} {xss : List (List Int)} {k : Nat} (h : k < xss.length) : goodTo n xss (k + 1) = (goodTo n xss k && goodE n xss[k]) := by
  unfold goodTo; rw [List.take_succ_eq_append_getElem h, List.all_append]; simp
theorem goodTo_at {n : Nat} {xss : List (List Int)} {k : Nat} (h : k < xss.length) (hb : goodE n xss[k] = false) : goodTo n xss xss.length = false := by
  unfold goodTo
  rw [List.take_length, Bool.eq_false_iff]
  intro hall
  rw [List.all_eq_true.1 hall _ (List.getElem_mem h)] at hb
  cases hb
theorem linkTo_lt {n : Nat} (hn : n ≤ 8) {xss : List (List Int)} : ∀ k, k ≤ xss.length → goodTo n xss k = true → ∀ i, linkTo xss k i < 256
  | 0, _, _ => fun _ => by simp [linkTo]
  | k + 1, hk, hg => by
    rw [goodTo_succ (by omega), Bool.and_eq_true] at hg
    have ih := linkTo_lt hn k (by omega) hg.1
    have hge := hg.2
    unfold goodE at hge
    rw [decide_eq_true_eq] at hge
    have e : xss.getD k [] = xss[k] := by simp [List.getD, List.getElem?_eq_getElem (show k < xss.length by omega)]
    unfold linkTo
    rw [e]
    exact lnk_lt (by omega) (by omega) ih
theorem linkTo_succ {xss : List (List Int)} {k : Nat} (h : k < xss.length) {a b : Nat} (ha : xss[k].getD 0 0 = (a : Int)) (hb : xss[k].getD 1 0 = (b : Int)) : linkTo xss (k + 1) = lnk (linkTo xss k) a b := by
  have e : xss.getD k [] = xss[k] := by simp [List.getD, List.getElem?_eq_getElem h]
  show lnk _ _ _ = _
  rw [e, ha, hb]; rfl

/-- Whether the edges make a graph of n nodes, and it. -/
def ofOk (n : Int) (xss : List (List Int)) : Bool := decide (1 ≤ n ∧ n ≤ 8) && goodTo n.toNat xss xss.length
def ofOf (n : Int) (xss : List (List Int)) : List Int := if ofOk n xss = true then glist n.toNat (linkTo xss xss.length) else []
theorem ofOf_len (n : Int) (xss : List (List Int)) : (ofOf n xss).length ≤ 1048576 := by
  unfold ofOf
  split
  · rename_i h
    unfold ofOk at h
    rw [Bool.and_eq_true, decide_eq_true_eq] at h
    rw [glist_len]; omega
  · simp

theorem pair_of {e : List Int} (h : e.length = 2) : ∃ a b, e = [a, b] := by
  match e, h with
  | [a, b], _ => exact ⟨a, b, rfl⟩

theorem l6In_r (n low high : Int) (r : Bool) (h : decide (low ≤ n ∧ n ≤ high) = r) (w : World) :
    Calls Tryd.prog 67 #[.int .i64 n, .int .i64 low, .int .i64 high] w fun e w' => e = .returned (.bool r) ∧ w = w' :=
  (l6In_any n low high w).mono fun e w' h' => ⟨by rw [← h]; exact h'.1, h'.2⟩

set_option maxRecDepth 100000 in
set_option maxHeartbeats 2000000 in
theorem specOf_any (w : World) (n : Int) (v : Value) (xss : List (List Int)) (h : IntRows w v xss) :
    Calls Tryd.prog 40 #[.int .i64 n, v] w (GivesInts w (ofOk n xss) (ofOf n xss)) := by
  obtain ⟨A, cap, rfl, hm, hc⟩ := h.at
  have HC := Lib.hid hc
  clear hc
  unfold maxLen at hm
  by_cases hn : 1 ≤ n ∧ n ≤ 8
  · obtain ⟨m, rfl⟩ : ∃ m : Nat, n = (m : Int) := ⟨n.toNat, by omega⟩
    have hmk := fun W => run_make_row' (P := Tryd.prog) 23 3 (.int .i64 0) 8 Tryd.underlying23 infoInt rfl .i64 .i64 m (by omega) (by omega) W
    have hl := fun W => l6In_r (m : Int) 1 8 true (decide_eq_true hn) W
    have HL := Lib.hid hl
    have hok : ofOk (m : Int) xss = goodTo m xss xss.length := by unfold ofOk; rw [decide_eq_true hn]; simp
    have HOK := Lib.hid hok
    have hm1 : 1 ≤ m := by omega
    have hm8 : m ≤ 8 := by omega
    have HH := Lib.hid h
    clear hl hn h hok
    go_enter Tryd.func40, Tryd.ntmps40
    go_wp2_with (go_at_call 67; refine (HL.out _).mono ?_; rintro e w' ⟨rfl, rfl⟩)
    go_loopw [7, 8] (fun i _ wr => ∃ k : Nat, k ≤ xss.length ∧ i = .int .i64 k ∧ goodTo m xss k = true ∧ Below w.heap.size w wr ∧ wr.ownsRow w.heap.size 3 1 (.slice (some ⟨w.heap.size, 0, none⟩) m m) m (vals (glist m (linkTo xss k))))
      (fun i _ _ => xss.length - (intOf i).toNat)
    case atStart =>
      refine ⟨0, by omega, rfl, by simp [goodTo], (Below.refl _ _).alloc (Nat.le_refl _) _, ?_⟩
      have := World.ownsRow_lit (base := w.heap.size) (e := 3) (size := 1) w (madeCells #[Value.int .i64 0] m) m (Nat.le_refl _) (by unfold maxLen; omega) (by simp [madeCells])
      rw [toList_madeCells_one] at this
      have e : vals (glist m (linkTo xss 0)) = List.replicate m (Value.int .i64 0) := by
        apply List.ext_getElem
        · simp [glist]
        · intro i h1 h2; simp [glist, linkTo]
      rw [e]; exact this
    case round =>
      clear hmk
      obtain ⟨k, hk, rfl, hg, hb, ho⟩ := hrel
      by_cases hlt : k < xss.length
      · obtain ⟨b, off, u, rfl, hcell0, hx0⟩ := HC.out k hlt
        have hcell := (hb.cell (p := ⟨b, off + k, none⟩) (World.block_lt_of_cell? w _ hcell0)).trans hcell0
        obtain ⟨A2, cap2, rfl, hm2, hc2⟩ := hx0
        unfold maxLen at hm2
        have hki : (k : Int) < (xss.length : Int) := by omega
        have HG := Lib.hid hg
        have HO := Lib.hid ho
        have hm_1 : IntKind.i64.wrap ((m : Int) - 1) = (m : Int) - 1 := by rw [wrap_eq]; unfold wrap64; omega
        clear hcell0 hg ho
        by_cases h2 : xss[k].length = 2
        · obtain ⟨e0, e1, he⟩ := pair_of h2
          obtain ⟨eb, eoff, rfl, hce0⟩ := hc2 0 (by omega)
          obtain ⟨eb', eoff', hbe, hce1⟩ := hc2 1 (by omega)
          cases hbe
          have hx0 : xss[k][0]'(by omega) = e0 := by simp [he]
          have hx1 : xss[k][1]'(by omega) = e1 := by simp [he]
          have hg0 : xss[k].getD 0 0 = e0 := by simp [he]
          have hg1 : xss[k].getD 1 0 = e1 := by simp [he]
          rw [hx0, Nat.add_zero] at hce0
          rw [hx1] at hce1
          have hebw : eb < w.heap.size := World.block_lt_of_cell? w _ hce0
          replace hce0 := (hb.cell (p := ⟨eb, eoff, none⟩) hebw).trans hce0
          replace hce1 := (hb.cell (p := ⟨eb, eoff + 1, none⟩) hebw).trans hce1
          rw [h2] at hcell
          have hl2 : xss[k].length = 2 := h2
          have HG0 := Lib.hid hg0
          have HG1 := Lib.hid hg1
          have HL2 := Lib.hid hl2
          clear hx0 hx1 hc2 h2 he hl2 hm2
          by_cases h0 : 0 ≤ e0 ∧ e0 ≤ (m : Int) - 1
          · have H0 := Lib.hid (fun W => l6In_q e0 0 ((m : Int) - 1) true (decide_eq_true h0) W)
            by_cases h1 : 0 ≤ e1 ∧ e1 ≤ (m : Int) - 1
            · have H1 := Lib.hid (fun W => l6In_q e1 0 ((m : Int) - 1) true (decide_eq_true h1) W)
              by_cases h01 : e0 = e1
              · have hbad : goodE m xss[k] = false := by
                  unfold goodE; rw [hg0, hg1, decide_eq_false]; intro hh; exact hh.2.2.2 h01
                have heq : (e0 == e1) = true := by rw [beq_iff_eq]; exact h01
                clear hg0 hg1 h01
                have hno := goodTo_at hlt hbad
                have HN := Lib.hid hno
                clear hno hbad
                go_wp2
                go_quiet (first | (go_at_call 67; with_reducible exact Calls.quiet_of_same (H0.out _)) | (go_at_call 67; with_reducible exact Calls.quiet_of_same (H1.out _)))
                go_wp2
                go_ret2
                have e : ofOf (m : Int) xss = [] := by unfold ofOf; rw [HOK.out, HN.out]; simp
                rw [HOK.out, HN.out, e]
                exact ⟨_, rfl, (below_drewN hb _).alloc hb.size _, owns_empty _ _ hb.size⟩
              · have hgood : goodE m xss[k] = true := by
                  unfold goodE; rw [hg0, hg1, decide_eq_true_eq]; exact ⟨HL2.out, by omega, by omega, h01⟩
                have heq : (e0 == e1) = false := by rw [beq_eq_false_iff_ne]; exact h01
                obtain ⟨a, rfl⟩ : ∃ a : Nat, e0 = (a : Int) := ⟨e0.toNat, by omega⟩
                obtain ⟨c, rfl⟩ : ∃ c : Nat, e1 = (c : Int) := ⟨e1.toNat, by omega⟩
                have ham : a < m := by omega
                have hcm : c < m := by omega
                have hnext := linkTo_succ hlt hg0 hg1
                have hgn : goodTo m xss (k + 1) = true := by rw [goodTo_succ hlt, HG.out, hgood]; rfl
                have hfl := linkTo_lt hm8 k hk HG.out
                obtain ⟨f, hf⟩ : ∃ f, linkTo xss k = f := ⟨_, rfl⟩
                rw [hf] at hnext hfl
                have hO := HO.out
                rw [hf] at hO
                obtain ⟨f1, hf1⟩ : ∃ f1, upd f a (f a ||| 2 ^ c) = f1 := ⟨_, rfl⟩
                have hf1l : ∀ i, f1 i < 256 := by rw [← hf1]; exact upd_lt hfl (with_lt (hfl a) (by omega))
                have hln : linkTo xss (k + 1) = upd f1 c (f1 c ||| 2 ^ a) := by rw [hnext]; unfold lnk; rw [hf1]
                have hv1 : bits .or .i64 (f a : Int) (wrap64 (2 ^ c)) = ((f a ||| 2 ^ c : Nat) : Int) := or_pow (hfl a) (by omega)
                have hv2 : bits .or .i64 (f1 c : Int) (wrap64 (2 ^ a)) = ((f1 c ||| 2 ^ a : Nat) : Int) := or_pow (hf1l c) (by omega)
                have ca := (hO.cellAt a (by omega)).trans (glist_cell m f a ham)
                have fa := hO.frozenAt a
                have hO1 := (hO.stored a (.int .i64 ((f a ||| 2 ^ c : Nat) : Int))).1
                rw [glist_set, hf1] at hO1
                have HO1 := Lib.hid hO1
                have HLN := Lib.hid hln
                have HGN := Lib.hid hgn
                have HV2 := Lib.hid hv2
                have ha8 : (a : Int) < 8 := by omega
                have hc8 : (c : Int) < 8 := by omega
                have hami : (a : Int) < (m : Int) := by omega
                have hcmi : (c : Int) < (m : Int) := by omega
                have hne1 : ¬ eb = w.heap.size := by omega
                clear hgood hg0 hg1 h01 hnext hgn hfl hf hO hf1 hf1l hln hO1 hv2
                go_wp2
                go_quiet (first | (go_at_call 67; with_reducible exact Calls.quiet_of_same (H0.out _)) | (go_at_call 67; with_reducible exact Calls.quiet_of_same (H1.out _)))
                go_wp2
                go_region
                go_wp2
                obtain ⟨W2, hW2⟩ : ∃ W2, (wr.drewN (nq + 1)).setCell ⟨w.heap.size, a, none⟩ (.int .i64 ((f a ||| 2 ^ c : Nat) : Int)) = W2 := ⟨_, rfl⟩
                have hB2 : Below w.heap.size w W2 := by rw [← hW2]; exact (below_drewN hb (nq + 1)).setCell (p := ⟨w.heap.size, a, none⟩) (Nat.le_refl _) _
                have hP2 : W2.ownsRow w.heap.size 3 1 (.slice (some ⟨w.heap.size, 0, none⟩) m m) m (vals (glist m f1)) := by rw [← hW2]; exact HO1.out
                have d0 : W2.cell? ⟨eb, eoff, none⟩ = some (.int .i64 (a : Int)) := by rw [← hW2, World.cell?_setCell_other _ _ _ _ (by intro hh; cases hh; omega)]; exact hce0
                have d1 : W2.cell? ⟨eb, eoff + 1, none⟩ = some (.int .i64 (c : Int)) := by rw [← hW2, World.cell?_setCell_other _ _ _ _ (by intro hh; cases hh; omega)]; exact hce1
                rw [hW2]
                clear hW2 ca fa hv1 hce0 hce1 hcell
                have hv2 := HV2.out
                have cc := (hP2.cellAt c (by omega)).trans (glist_cell m f1 c hcm)
                have fc := hP2.frozenAt c
                have hP3 := (hP2.stored c (.int .i64 ((f1 c ||| 2 ^ a : Nat) : Int))).1
                rw [glist_set, ← HLN.out] at hP3
                have HP3 := Lib.hid hP3
                clear hP3 hP2
                go_region
                go_wp2
                go_roundw
                case rel => exact ⟨k + 1, by omega, by go_num, HGN.out, (hB2.setCell (p := ⟨w.heap.size, c, none⟩) (Nat.le_refl _) _).drew, HP3.out⟩
                case measure => simp [intOf]; omega
            · have H1 := Lib.hid (fun W => l6In_q e1 0 ((m : Int) - 1) false (decide_eq_false h1) W)
              have hbad : goodE m xss[k] = false := by
                unfold goodE; rw [hg0, hg1, decide_eq_false]; intro hh; exact h1 (by omega)
              clear hg0 hg1 h1
              have hno := goodTo_at hlt hbad
              have HN := Lib.hid hno
              clear hno hbad
              go_wp2
              go_quiet (first | (go_at_call 67; with_reducible exact Calls.quiet_of_same (H0.out _)) | (go_at_call 67; with_reducible exact Calls.quiet_of_same (H1.out _)))
              go_wp2
              go_ret2
              have e : ofOf (m : Int) xss = [] := by unfold ofOf; rw [HOK.out, HN.out]; simp
              rw [HOK.out, HN.out, e]
              exact ⟨_, rfl, (below_drewN hb _).alloc hb.size _, owns_empty _ _ hb.size⟩
          · have H0 := Lib.hid (fun W => l6In_q e0 0 ((m : Int) - 1) false (decide_eq_false h0) W)
            have hbad : goodE m xss[k] = false := by
              unfold goodE; rw [hg0, hg1, decide_eq_false]; intro hh; exact h0 (by omega)
            clear hg0 hg1 h0
            have hno := goodTo_at hlt hbad
            have HN := Lib.hid hno
            clear hno hbad
            go_wp2
            go_quiet ((go_at_call 67; with_reducible exact Calls.quiet_of_same (H0.out _)))
            go_wp2
            go_ret2
            have e : ofOf (m : Int) xss = [] := by unfold ofOf; rw [HOK.out, HN.out]; simp
            rw [HOK.out, HN.out, e]
            exact ⟨_, rfl, (below_drewN hb _).alloc hb.size _, owns_empty _ _ hb.size⟩
        · have hne : (((xss[k].length : Nat) : Int) != 2) = true := by simp; omega
          have hbad : goodE m xss[k] = false := by unfold goodE; rw [decide_eq_false]; intro hh; exact h2 hh.1
          have hno := goodTo_at hlt hbad
          have HN := Lib.hid hno
          clear hno hbad h2 hc2
          go_wp2
          go_quiet (fail)
          go_wp2
          go_ret2
          have e : ofOf (m : Int) xss = [] := by unfold ofOf; rw [HOK.out, HN.out]; simp
          rw [HOK.out, HN.out, e]
          exact ⟨_, rfl, (below_drewN hb _).alloc hb.size _, owns_empty _ _ hb.size⟩
      · obtain rfl : k = xss.length := by omega
        have HO2 := Lib.hid ho
        have HG := Lib.hid hg
        clear ho hg
        go_wp2
        go_ret2
        refine ⟨_, by rw [HOK.out, HG.out]; rfl, hb, ?_⟩
        have e : ofOf (m : Int) xss = glist m (linkTo xss xss.length) := by unfold ofOf; rw [if_pos (by rw [HOK.out]; exact HG.out)]; rfl
        rw [e]
        show World.ownsRow _ _ _ _ _ (glist m _).length _
        rw [glist_len]
        exact HO2.out
  · have hok : ofOk n xss = false := by unfold ofOk; rw [decide_eq_false hn]; rfl
    have ho : ofOf n xss = [] := by unfold ofOf; rw [hok]; simp
    have hl := fun W => l6In_r n 1 8 false (decide_eq_false hn) W
    have HL := Lib.hid hl
    rw [hok, ho]
    clear hl hn h hok ho
    go_enter Tryd.func40, Tryd.ntmps40
    go_wp2_with (go_at_call 67; refine (HL.out _).mono ?_; rintro e w' ⟨rfl, rfl⟩)
    go_ret2
    exact ⟨_, rfl, (Below.refl _ _).alloc (Nat.le_refl _) _, owns_empty w _ (Nat.le_refl _)⟩

end Go.Proofs.YthafhcocgohjaabDoor
