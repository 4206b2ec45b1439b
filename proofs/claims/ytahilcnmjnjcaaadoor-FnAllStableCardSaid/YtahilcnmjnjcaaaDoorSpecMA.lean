/-
  spec.MarketAll: all stable pairings.
-/
import Derived.Test.YtahilcnmjnjcaaaDoorSpecMAll
import Derived.Test.YtahilcnmjnjcaaaDoorCore1
namespace Go.Proofs.YtahilcnmjnjcaaaDoor
set_option linter.unusedVariables false
set_option linter.unusedSimpArgs false
open Go.RowKit

set_option maxRecDepth 100000 in
set_option maxHeartbeats 2000000 in
theorem specMAll_any (w : World) (L R : Value) (ls rs : List (List Int)) (hL : IntRows w L ls) (hR : IntRows w R rs) :
    Calls Tryd.prog 11 #[.agg (two L R)] w (GivesRows w (mktOk ls rs) (allL ls rs)) := by
  obtain ⟨A1, cap1, hLe, _, _⟩ := hL.at
  subst hLe
  obtain ⟨W0, hW0⟩ : ∃ W0, w.alloc (.cells (two (.slice A1 ls.length cap1) R) 28) = W0 := ⟨_, rfl⟩
  have hb0 : Below w.heap.size w W0 := by rw [← hW0]; exact (Below.refl _ _).alloc (Nat.le_refl _) _
  have hbox : W0.heap[w.heap.size]? = some (.cells (two (.slice A1 ls.length cap1) R) 28 (0, 0)) := by rw [← hW0]; exact World.alloc_heap_new _ _
  have HSI := Lib.hid (specMIn_any W0 _ R ls rs (hL.below hb0) (hR.below hb0))
  have HB0 := Lib.hid hb0
  have HLR := Lib.hid (And.intro hL hR)
  clear hL hR hb0
  cases hok : mktOk ls rs with
  | false =>
    have HNO := Lib.hid (allL_no hok)
    rw [hok] at HSI
    clear hok
    go_enter Tryd.func11, Tryd.ntmps11
    go_wp2_with (refine load_mi rfl _ rfl w.heap.size _ R rfl hbox ?_)
    clear hW0
    refine HSI.out.mono ?_
    rintro e w1 ⟨rfl, hb1⟩
    have HB1 := Lib.hid (step_below HB0.out hb1)
    clear hb1
    go_wp2
    go_ret2
    rw [HNO.out]
    exact ⟨_, [], rfl, HB1.out.alloc HB1.out.size _, owns_rows_nil _ _ _ (World.ownsRow_made (base := w.heap.size) (e := 39) (size := 1) w1 #[] 0 HB1.out.size (Nat.zero_le _) rfl)⟩
  | true =>
    obtain ⟨⟨h1, h5, hl⟩, _⟩ := mktOk_parts hok
    have HYES := Lib.hid (allL_yes hok)
    have HCA := Lib.hid (fun (W : World) (hW : Below w.heap.size w W) => show Calls Tryd.prog 42 #[.agg (two (.slice A1 ls.length cap1) R), .slice (some ⟨W.heap.size, 0, none⟩) 0 0, .slice (some ⟨W.heap.size + 1, 0, none⟩) 0 0] ((W.alloc (.cells #[] 3)).alloc (.cells #[] 39)) fun e w' => ∃ v' us', e = .returned v' ∧ OwnsRows w' w.heap.size w'.heap.size v' us' (allI ls rs ls.length ls.length []) ∧ Below w.heap.size w w' from by
      have hbW : Below W.heap.size W (W.alloc (.cells #[] 3)) := (Below.refl _ _).alloc (Nat.le_refl _) _
      have hown1 : Owns ((W.alloc (.cells #[] 3)).alloc (.cells #[] 39)) 0 (.slice (some ⟨W.heap.size, 0, none⟩) ([] : List Int).length 0) [] := (owns_mono (owns_empty W W.heap.size (Nat.le_refl _)) (Nat.zero_le _)).alloc _
      have hs1 : (W.alloc (.cells #[] 3)).heap.size = W.heap.size + 1 := by simp
      have hown2 : ((W.alloc (.cells #[] 3)).alloc (.cells #[] 39)).ownsRow (W.alloc (.cells #[] 3)).heap.size 39 1 (.slice (some ⟨(W.alloc (.cells #[] 3)).heap.size, 0, none⟩) 0 0) 0 [] :=
        World.ownsRow_made (base := (W.alloc (.cells #[] 3)).heap.size) (e := 39) (size := 1) (W.alloc (.cells #[] 3)) #[] 0 (Nat.le_refl _) (Nat.zero_le _) rfl
      have hrs0 := owns_rows_nil _ _ _ hown2
      have hbel : Below w.heap.size w ((W.alloc (.cells #[] 3)).alloc (.cells #[] 39)) := (step_below hW hbW).alloc (step_below hW hbW).size _
      have h55 : 5 ^ ls.length ≤ 3125 := Nat.le_trans (Nat.pow_le_pow_right (by decide) h5) (by decide)
      have H := l6mAll_any w A1 cap1 R ls rs hok ls.length rfl h5 HLR.out.1 HLR.out.2 (W.alloc (.cells #[] 3)).heap.size (by have := hW.size; simp; omega) ls.length ((W.alloc (.cells #[] 3)).alloc (.cells #[] 39)) W.heap.size 0 (.slice (some ⟨(W.alloc (.cells #[] 3)).heap.size, 0, none⟩) 0 0) [] [] [] (by simp) (begins_nil _) hbel hown1 hrs0 (by simp) (by simp; omega) (fun h => by omega)
      rw [hs1] at H hown2
      refine H.mono (fun e w' h => ?_)
      obtain ⟨v', us', rfl, h1, h2⟩ := h
      rw [List.nil_append] at h1
      have hsz := hW.size
      exact ⟨v', us', rfl, h1.wide (by omega) (Nat.le_refl _), h2.bel hbel hown2 (by omega)⟩)
    rw [hok] at HSI
    clear hok h1 h5 hl
    go_enter Tryd.func11, Tryd.ntmps11
    go_wp2_with (refine load_mi rfl _ rfl w.heap.size _ R rfl hbox ?_)
    clear hW0
    refine HSI.out.mono ?_
    rintro e w1 ⟨rfl, hb1⟩
    have HB1 := Lib.hid (step_below HB0.out hb1)
    have hbox1 := kept_obj hb1 hbox
    have HC := Lib.hid (HCA.out w1 HB1.out)
    have hbox2 : ((w1.alloc (.cells #[] 3)).alloc (.cells #[] 39)).heap[w.heap.size]? = some (.cells (two (.slice A1 ls.length cap1) R) 28 (0, 0)) := kept_obj (((Below.refl _ _).alloc (Nat.le_refl _) _).alloc (by simp) _) hbox1
    obtain ⟨x0, x1, _, _⟩ := two_cells hbox1
    clear hb1
    go_wp2_with (first
      | (refine load_mi rfl _ rfl w.heap.size _ R rfl hbox1 ?_)
      | (refine load_mi rfl _ rfl w.heap.size _ R rfl hbox2 ?_)
      | (go_at_call 42; refine HC.out.mono ?_; rintro e w2 ⟨v2, us2, rfl, hrs2, hb2⟩))
    go_ret2
    rw [HYES.out]
    exact ⟨v2, us2, rfl, hb2, hrs2⟩

end Go.Proofs.YtahilcnmjnjcaaaDoor
