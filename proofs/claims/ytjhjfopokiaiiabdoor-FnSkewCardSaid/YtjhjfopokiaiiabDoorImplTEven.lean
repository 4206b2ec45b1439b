/-
  impl.TableEven.
-/
import Derived.Test.YtjhjfopokiaiiabDoorTFrom
import Derived.Test.YtjhjfopokiaiiabDoorSpecTEven
namespace Go.Proofs.YtjhjfopokiaiiabDoor
set_option linter.unusedVariables false
set_option linter.unusedSimpArgs false
open Go.RowKit

set_option maxRecDepth 100000 in
set_option maxHeartbeats 1000000 in
theorem implTEven_any (w : World) (v : Value) (xss : List (List Int)) (h : IntRows w v xss) :
    Calls Tryd.prog 12 #[v] w (GivesBool w (evenOf xss)) := by
  have hf := tFrom_any w v xss h
  obtain ⟨A, cap, rfl, hm, hc⟩ := h.at
  clear hc h
  cases ht : tIn xss with
  | false =>
    have ho : evenOf xss = false := by unfold evenOf; rw [ht]; rfl
    have hs : tFromOf xss = tcells 0 fun _ => 0 := by unfold tFromOf; rw [ht]; rfl
    rw [ht, hs] at hf
    have HF := Lib.hid hf
    have HO := Lib.hid ho
    clear hf ho hs ht
    go_enter Tryd.func12, Tryd.ntmps12
    go_wp2_with (first
      | (go_at_call 32; refine HF.out.mono ?_; rintro e w1 ⟨rfl, hb1⟩)
      | (refine alloc_table rfl rfl ?_)
      | (refine store_table_last rfl _ _ rfl 0 (fun _ => 0) _ rfl rfl rfl ?_))
    go_ret
    exact ⟨ret_bool HO.out.symm, hb1.alloc hb1.size _⟩
  | true =>
    have hs : tFromOf xss = tcells xss.length (flat xss) := by unfold tFromOf; rw [ht]; rfl
    have hk := fun W => isEven_any xss.length (flat xss) W
    rw [even_is ht] at hk
    obtain ⟨b, hb⟩ : ∃ b, turnB 1 (flat xss) xss.length = b := ⟨_, rfl⟩
    rw [hb] at hk
    have ho : evenOf xss = b := by unfold evenOf; rw [ht, hb]; rfl
    rw [ht, hs] at hf
    have HF := Lib.hid hf
    have HO := Lib.hid ho
    have HK := Lib.hid hk
    clear hf ho hs hk ht hb
    go_enter Tryd.func12, Tryd.ntmps12
    go_wp2_with (first
      | (go_at_call 32; refine HF.out.mono ?_; rintro e w1 ⟨rfl, hb1⟩)
      | (refine alloc_table rfl rfl ?_)
      | (refine store_table_last rfl _ _ rfl xss.length (flat xss) _ rfl rfl rfl ?_)
      | (refine load_table_g rfl _ rfl _ xss.length (flat xss) rfl (World.alloc_heap_new _ _) ?_)
      | (go_at_call 37; refine (HK.out _).mono ?_; rintro e w2 ⟨rfl, hb2⟩))
    go_ret
    exact ⟨ret_bool HO.out.symm, step_below (hb1.alloc hb1.size _) hb2⟩

end Go.Proofs.YtjhjfopokiaiiabDoor
