/-
  impl.GraphOther and the specification's: what they hand back.
-/
import Derived.Test.YthafhcocgohjaabDoorCore2
import Derived.Test.YthafhcocgohjaabDoorOther
import Derived.Deep.RegionLaw
import Derived.Deep.AppendLies
namespace Go.Proofs.YthafhcocgohjaabDoor
set_option linter.unusedVariables false
set_option linter.unusedSimpArgs false
open Go.RowKit
set_option maxRecDepth 100000

/-- What both hand back. -/
def otherOf (xs : List Int) : List Int := if gIn xs = true then glist xs.length (othOf xs.length (gfun xs)) else []

set_option maxHeartbeats 400000 in
theorem implOther_any (w : World) (v : Value) (xs : List Int) (h : Ints w v xs) (hr : ∀ x ∈ xs, I64 x) (hT : Tab w) :
    Calls Tryd.prog 23 #[v] w (GivesInts w (gIn xs) (otherOf xs)) := by
  have hf := from_any w v xs h hr hT
  cases hg : gIn xs with
  | false =>
    have ho : otherOf xs = [] := by simp [otherOf, hg]
    have hfr : fromOf xs = gcells 0 (fun _ => 0) := by simp [fromOf, hg]
    rw [hg, hfr] at hf
    rw [ho]
    have HF := Lib.hid hf
    clear hf hg ho hfr hT hr h
    go_enter Tryd.func23, Tryd.ntmps23
    go_wp2_with (first
      | (go_at_call 59; refine HF.out.mono ?_; rintro e w1 ⟨rfl, hb1⟩)
      | (refine store_graph_new rfl _ _ rfl 0 (fun _ => 0) rfl rfl ?_))
    go_ret2
    exact ⟨_, rfl, hb1.alloc hb1.size _, World.ownsRow_nil _ _ _ _⟩
  | true =>
    obtain ⟨h1, h8, hok⟩ := gIn_parts hg
    have ho : otherOf xs = glist xs.length (othOf xs.length (gfun xs)) := by simp [otherOf, hg]
    have hfr : fromOf xs = gcells xs.length (gfun xs) := by simp [fromOf, hg]
    have hlt := gfun_lt h8 hok
    rw [hg, hfr] at hf
    rw [ho]
    have HF := Lib.hid hf
    have HL := Lib.hid hlt
    clear hf hg ho hfr hT hr h hok hlt
    go_enter Tryd.func23, Tryd.ntmps23
    go_wp2_with (first
      | (go_at_call 59; refine HF.out.mono ?_; rintro e w1 ⟨rfl, hb1⟩)
      | (refine store_graph_new rfl _ _ rfl xs.length (gfun xs) rfl rfl ?_)
      | (refine load_graph rfl _ rfl _ xs.length (gfun xs) rfl (World.alloc_heap_new _ _) ?_)
      | (go_at_call 65; refine (other_any xs.length (gfun xs) h8 HL.out _).mono ?_; rintro e w2 ⟨rfl, hb2⟩)
      | (go_at_call 66; refine (list_any xs.length _ h8 _).mono ?_; rintro e w3 ⟨rfl, hb3, ho⟩))
    go_ret2
    have hb4 := step_below (step_below (hb1.alloc hb1.size _) hb2) hb3
    refine ⟨_, rfl, hb4, owns_mono ho ?_⟩
    have := hb2.size
    have := hb1.size
    simp at *
    omega

theorem or_not : ∀ (m : Fin 256) (i : Fin 8), 255 - (m.val ||| 2 ^ i.val) = (255 - 2 ^ i.val) &&& (255 - m.val) := by decide +kernel

theorem other_val {n k m : Nat} (hn : n < 9) (hk : k < 8) (hm : m < 256) :
    bits .andNot .i64 (IntKind.i64.wrap (IntKind.i64.wrap (2 ^ n) - 1)) (bits .or .i64 (m : Int) (IntKind.i64.wrap (2 ^ k))) = ((((2 ^ n - 1) &&& (255 - 2 ^ k)) &&& (255 - m) : Nat) : Int) := by
  have h := pow8_le hn
  have h1 : 0 < 2 ^ n := Nat.two_pow_pos n
  rw [low_wrap' hn, wrap_eq, or_pow hm (by omega), andNot64 _ _ (by omega) (with_lt hm hk)]
  have := or_not ⟨m, hm⟩ ⟨k, hk⟩
  simp only at this
  rw [this, Nat.and_assoc]


end Go.Proofs.YthafhcocgohjaabDoor
