/-
  impl.GraphOther and the specification's: what they hand back.
-/
import Derived.Test.YtcklinoiaiilgabDoorFrom
import Derived.Test.YtcklinoiaiilgabDoorSpecIn
import Derived.Test.YtcklinoiaiilgabDoorOther
import Derived.Deep.RegionLaw
import Derived.Deep.AppendLies
namespace Go.Proofs.YtcklinoiaiilgabDoor
set_option linter.unusedVariables false
set_option linter.unusedSimpArgs false
open Go.RowKit
set_option maxRecDepth 100000

/-- What both hand back. -/
def otherOf (xs : List Int) : List Int := if gIn xs = true then glist xs.length (othOf xs.length (gfun xs)) else []

set_option maxHeartbeats 400000 in
theorem implOther_any (w : World) (v : Value) (xs : List Int) (h : Ints w v xs) (hr : ∀ x ∈ xs, I64 x) (hT : Tab w) :
    Calls Tryd.prog 38 #[v] w (GivesInts w (gIn xs) (otherOf xs)) := by
  have hf := from_any w v xs h hr hT
  cases hg : gIn xs with
  | false =>
    have ho : otherOf xs = [] := by simp [otherOf, hg]
    have hfr : fromOf xs = gcells 0 (fun _ => 0) := by simp [fromOf, hg]
    rw [hg, hfr] at hf
    rw [ho]
    have HF := Lib.hid hf
    clear hf hg ho hfr hT hr h
    go_enter Tryd.func38, Tryd.ntmps38
    go_wp2_with (first
      | (go_at_call 84; refine HF.out.mono ?_; rintro e w1 ⟨rfl, hb1⟩)
      | (refine store_graph_new rfl _ _ rfl 0 (fun _ => 0) rfl rfl ?_))
    go_ret2
    exact ⟨_, rfl, hb1.alloc hb1.size _, World.ownsRow_nil _ _ _ _⟩
  | true =>
    obtain ⟨h1, h8, hok⟩ := gIn_parts hg
    have ho : otherOf xs = glist xs.length (othOf xs.length (gfun xs)) := by simp [otherOf, hg]
    have hfr : fromOf xs = gcells xs.length (gfun xs) := by simp [fromOf, hg]
    have hlt := gfun_lt h8 hok
    rw [hg, hfr] at hf
    rw [ho]
    have HF := Lib.hid hf
    have HL := Lib.hid hlt
    clear hf hg ho hfr hT hr h hok hlt
    go_enter Tryd.func38, Tryd.ntmps38
    go_wp2_with (first
      | (go_at_call 84; refine HF.out.mono ?_; rintro e w1 ⟨rfl, hb1⟩)
      | (refine store_graph_new rfl _ _ rfl xs.length (gfun xs) rfl rfl ?_)
      | (refine load_graph rfl _ rfl _ xs.length (gfun xs) rfl (World.alloc_heap_new _ _) ?_)
      | (go_at_call 73; refine (other_any xs.length (gfun xs) h8 HL.out _).mono ?_; rintro e w2 ⟨rfl, hb2⟩)
      | (go_at_call 74; refine (list_any xs.length _ h8 _).mono ?_; rintro e w3 ⟨rfl, hb3, ho⟩))
    go_ret2
    have hb4 := step_below (step_below (hb1.alloc hb1.size _) hb2) hb3
    refine ⟨_, rfl, hb4, owns_mono ho ?_⟩
    have := hb2.size
    have := hb1.size
    simp at *
    omega

theorem or_not : ∀ (m : Fin 256) (i : Fin 8), 255 - (m.val ||| 2 ^ i.val) = (255 - 2 ^ i.val) &&& (255 - m.val) := by decide +kernel

theorem other_val {n k m : Nat} (hn : n < 9) (hk : k < 8) (hm : m < 256) :
    bits .andNot .i64 (IntKind.i64.wrap (IntKind.i64.wrap (2 ^ n) - 1)) (bits .or .i64 (m : Int) (IntKind.i64.wrap (2 ^ k))) = ((((2 ^ n - 1) &&& (255 - 2 ^ k)) &&& (255 - m) : Nat) : Int) := by
  have h := pow8_le hn
  have h1 : 0 < 2 ^ n := Nat.two_pow_pos n
  rw [low_wrap' hn, wrap_eq, or_pow hm (by omega), andNot64 _ _ (by omega) (with_lt hm hk)]
  have := or_not ⟨m, hm⟩ ⟨k, hk⟩
  simp only at this
  rw [this, Nat.and_assoc]

set_option maxRecDepth 100000 in
set_option maxHeartbeats 1000000 in
theorem specOther_any (w : World) (v : Value) (xs : List Int) (h : Ints w v xs) :
    Calls Tryd.prog 39 #[v] w (GivesInts w (gIn xs) (otherOf xs)) := by
  obtain ⟨i0, hi, hz0, hz1, hz2⟩ := info_parts infoInt
  have hv := h
  obtain ⟨A, cap, rfl, hm, hc⟩ := h
  have HV := Lib.hid hv
  have HC := Lib.hid hc
  clear hv hc
  unfold maxLen at hm
  have hsp := fun W (hW : Ints W (.slice A xs.length cap) xs) => specIn_any W _ xs hW
  cases hg : gIn xs with
  | false =>
    have ho : otherOf xs = [] := by simp [otherOf, hg]
    rw [hg] at hsp
    rw [ho]
    have HSP := Lib.hid hsp
    clear hsp hg ho
    go_enter Tryd.func39, Tryd.ntmps39
    go_wp2_with (go_at_call 86; refine (HSP.out _ (HV.out.below ((Below.refl _ _).alloc (Nat.le_refl _) _))).mono ?_; rintro e w1 ⟨rfl, q, rfl⟩)
    go_ret2
    exact ⟨_, rfl, below_drewN ((Below.refl _ _).alloc (Nat.le_refl _) _) q, owns_empty w _ (Nat.le_refl _)⟩
  | true =>
    obtain ⟨h1, h8, hok⟩ := gIn_parts hg
    have ho : otherOf xs = glist xs.length (othOf xs.length (gfun xs)) := by simp [otherOf, hg]
    rw [hg] at hsp
    rw [ho]
    have HSP := Lib.hid hsp
    have HO := Lib.hid hok
    clear hsp hg ho hok
    go_enter Tryd.func39, Tryd.ntmps39
    go_wp2_with (go_at_call 86; refine (HSP.out _ (HV.out.below ((Below.refl _ _).alloc (Nat.le_refl _) _))).mono ?_; rintro e w1 ⟨rfl, q, rfl⟩)
    go_loopw [4, 5] (fun u i wr => ∃ k : Nat, k ≤ xs.length ∧ i = .int .i64 k ∧ Below w.heap.size w wr ∧ wr.ownsRow w.heap.size 3 1 u k (vals (glist k (othOf xs.length (gfun xs)))))
      (fun _ i _ => xs.length - (intOf i).toNat)
    case atStart => exact ⟨0, by omega, rfl, below_drewN ((Below.refl _ _).alloc (Nat.le_refl _) _) q, owns_empty w _ (Nat.le_refl _)⟩
    case round =>
      obtain ⟨k, hk, rfl, hb, ho⟩ := hrel
      by_cases hlt : k < xs.length
      · obtain ⟨b, off, rfl, hcell0⟩ := HC.out k hlt
        obtain ⟨hxk, hlk⟩ := row_value h8 HO.out hlt
        have hcell : wr.cell? ⟨b, off + k, none⟩ = some (.int .i64 (gfun xs k : Int)) := by
          rw [← hxk]; exact (hb.cell (p := ⟨b, off + k, none⟩) (World.block_lt_of_cell? w _ hcell0)).trans hcell0
        have hblt := World.block_lt_of_cell? w _ hcell0
        have hbl2 : b < wr.heap.size := Nat.lt_of_lt_of_le hblt hb.size
        have hv : bits .andNot .i64 (IntKind.i64.wrap (IntKind.i64.wrap (2 ^ xs.length) - 1)) (bits .or .i64 (gfun xs k : Int) (IntKind.i64.wrap (2 ^ k))) = (othOf xs.length (gfun xs) k : Int) := by
          rw [other_val (by omega) (by omega) hlk]; unfold othOf; rw [if_pos hlt]
        have hki : (k : Int) < (xs.length : Int) := by omega
        clear hcell0 hxk hlk
        go_wp2
        go_region_law (refine step_append_lies _ (by rfl) (.tmp 17) (.tmp 30) 24 (by rfl) w.heap.size 3 i0 (.int .i64 0) 1 8 Tryd.underlying24 hi hz0 hz1 hz2 rfl (by decide) _ _ _ (by rfl) (by exact ho.alloc _) ⟨wr.heap.size, 0, none⟩ 1 1 [.int .i64 (othOf xs.length (gfun xs) k : Int)] (by rfl) (by rfl) (by exact cell_one_new _ _ _) (by simp [Value.oneCell']) (by decide) (by unfold maxLen; omega) (by omega) (by have := hb.size; simp; omega) _ (by rfl) ?_; intro g cap w1 hown hgrow _ _)
        go_wp2
        go_roundw
        case rel =>
          refine ⟨k + 1, by omega, by go_num, ?_, ?_⟩
          · exact ((hb.alloc hb.size _).drew).grown hgrow (by have := hb.size; simp; omega) (fun j hj => (ho.lt j hj).1)
          · rw [glist_succ]; exact hown
        case measure => simp [intOf]; omega
      · obtain rfl : k = xs.length := by omega
        have HO2 := Lib.hid ho
        clear ho
        go_wp2
        go_ret2
        refine ⟨_, rfl, hb, ?_⟩
        show World.ownsRow _ _ _ _ _ (glist xs.length _).length _
        rw [glist_len]
        exact HO2.out

end Go.Proofs.YtcklinoiaiilgabDoor
