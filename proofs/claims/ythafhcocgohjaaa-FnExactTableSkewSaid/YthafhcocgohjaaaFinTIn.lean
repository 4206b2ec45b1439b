/-
  impl.TableIn, and the law of it.
-/
import Derived.Test.YthafhcocgohjaaaTFrom
import Derived.Test.YthafhcocgohjaaaLawTIn
namespace Go.Proofs.Ythafhcocgohjaaa
set_option linter.unusedVariables false
set_option linter.unusedSimpArgs false
open Go.RowKit

theorem tFrom_shape (xss : List (List Int)) : ∃ n F, tFromOf xss = tcells n F := by
  unfold tFromOf; split
  · exact ⟨_, _, rfl⟩
  · exact ⟨_, _, rfl⟩

set_option maxRecDepth 100000 in
set_option maxHeartbeats 400000 in
theorem implTIn_any (w : World) (v : Value) (xss : List (List Int)) (h : IntRows w v xss) :
    Calls Try.prog 9 #[v] w (GivesBool w (tIn xss)) := by
  have hf := tFrom_any w v xss h
  obtain ⟨n, F, hs⟩ := tFrom_shape xss
  rw [hs] at hf
  have HF := Lib.hid hf
  obtain ⟨A, cap, rfl, hm, hc⟩ := h.at
  clear hf hs hc h
  go_enter Try.func9, Try.ntmps9
  go_wp2_with (first
    | (go_at_call 18; refine HF.out.mono ?_; rintro e w1 ⟨rfl, hb1⟩)
    | (refine alloc_table rfl rfl ?_)
    | (refine store_table_last rfl _ _ rfl n F _ rfl rfl rfl ?_))
  go_ret
  exact ⟨rfl, hb1.alloc hb1.size _⟩

theorem FnExactTableIn_final (w : World) (v : Value) (xss : List (List Int)) (h : IntRows w v xss) :
    Calls Try.prog 3 #[v] w fun e w' => e = .returned (.bool true) ∧ Below w.heap.size w w' :=
  FnExactTableIn_walk w v xss h (tIn xss) (fun W u hu => (specTIn_any W u xss hu).mono fun e W' ⟨he, q, hq⟩ => ⟨he, hq ▸ below_drewN (Below.refl _ _) q⟩) (fun W u hu => implTIn_any W u xss hu)

end Go.Proofs.Ythafhcocgohjaaa
