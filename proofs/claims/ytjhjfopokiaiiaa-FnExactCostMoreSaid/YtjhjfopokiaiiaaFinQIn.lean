/-
  impl.CostIn, and the law of it.
-/
import Derived.Test.YtjhjfopokiaiiaaCostsFrom
import Derived.Test.YtjhjfopokiaiiaaLawQIn
namespace Go.Proofs.Ytjhjfopokiaiiaa
set_option linter.unusedVariables false
set_option linter.unusedSimpArgs false
open Go.RowKit

theorem cIn_size {xss : List (List Int)} (h : cIn xss = true) : 1 ≤ xss.length ∧ xss.length ≤ 6 := by
  unfold cIn at h
  rw [Bool.and_eq_true, decide_eq_true_iff] at h
  exact h.2

theorem cFrom_shape (xss : List (List Int)) : ∃ n F, cFromOf xss = tcells n F := by
  unfold cFromOf; split
  · exact ⟨_, _, rfl⟩
  · exact ⟨_, _, rfl⟩

set_option maxRecDepth 100000 in
set_option maxHeartbeats 400000 in
theorem implQIn_any (w : World) (v : Value) (xss : List (List Int)) (h : IntRows w v xss) :
    Calls Try.prog 24 #[v] w (GivesBool w (cIn xss)) := by
  have hf := cFrom_any w v xss h
  obtain ⟨n, F, hs⟩ := cFrom_shape xss
  rw [hs] at hf
  have HF := Lib.hid hf
  obtain ⟨A, cap, rfl, hm, hc⟩ := h.at
  clear hf hs hc h
  go_enter Try.func24, Try.ntmps24
  go_wp2_with (first
    | (go_at_call 46; refine HF.out.mono ?_; rintro e w1 ⟨rfl, hb1⟩)
    | (refine alloc_whole rfl rfl ?_)
    | (refine store_whole_last rfl _ _ rfl n F _ rfl rfl rfl ?_))
  go_ret
  exact ⟨rfl, hb1.alloc hb1.size _⟩

theorem FnExactCostIn_final (w : World) (v : Value) (xss : List (List Int)) (h : IntRows w v xss) :
    Calls Try.prog 5 #[v] w fun e w' => e = .returned (.bool true) ∧ Below w.heap.size w w' :=
  FnExactCostIn_walk w v xss h (cIn xss) (fun W u hu => (specCostIn_any W u xss hu).mono fun e W' ⟨he, q, hq⟩ => ⟨he, hq ▸ below_drewN (Below.refl _ _) q⟩) (fun W u hu => implQIn_any W u xss hu)

end Go.Proofs.Ytjhjfopokiaiiaa
