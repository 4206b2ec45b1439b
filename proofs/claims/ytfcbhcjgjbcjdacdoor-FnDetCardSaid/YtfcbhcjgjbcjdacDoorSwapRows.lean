/-
  The first two rows exchanged, in a new list of the same rows.
-/
import Derived.Test.YtfcbhcjgjbcjdacDoorMonoDet
import Derived.Test.YtfcbhcjgjbcjdacDoorGives
import Derived.Test.YtfcbhcjgjbcjdacDoorRowsPush
namespace Go.Proofs.YtfcbhcjgjbcjdacDoor
set_option linter.unusedVariables false
set_option linter.unusedSimpArgs false
open Go.RowKit

theorem swapped_rows {W W' : World} {us : List Value} {u0 u1 : Value} {xss : List (List Int)} {base g cap : Nat} (hul : us.length = xss.length) (hin : ∀ i (h : i < xss.length) u, us[i]? = some u → Ints W u xss[i]) (h2 : 2 ≤ xss.length) (hm : xss.length ≤ maxLen)
    (hb : Below W.heap.size W W') (e0 : us[0]? = some u0) (e1 : us[1]? = some u1) (ho : W'.ownsRow base 27 1 (.slice (some ⟨g, 0, none⟩) xss.length cap) xss.length ([u1, u0] ++ us.drop 2)) : IntRows W' (.slice (some ⟨g, 0, none⟩) xss.length cap) (swR xss) := by
  have hl := swR_len h2
  have hll : ([u1, u0] ++ us.drop 2).length = xss.length := by simp; omega
  have key : IntRows W' (.slice (some ⟨g, 0, none⟩) (swR xss).length cap) (swR xss) := by
    refine ⟨some ⟨g, 0, none⟩, cap, [u1, u0] ++ us.drop 2, rfl, by rw [hl]; exact hm, by rw [hll, hl], fun i hi u hu => ⟨⟨g, 0, rfl, ?_⟩, ?_⟩⟩
    · rw [Nat.zero_add, ho.cellAt i (by omega), hu]
    · have hi' : i < xss.length := by rw [hl] at hi; exact hi
      have hs := sw01_lt h2 hi'
      have e : (swR xss)[i] = xss[sw01 i] := by
        have := swR_at h2 i
        rw [List.getD_eq_getElem?_getD, List.getElem?_eq_getElem hi, List.getD_eq_getElem?_getD, List.getElem?_eq_getElem hs] at this
        simpa using this
      rw [e]
      refine (hin (sw01 i) hs u ?_).below hb
      match i, hu with
      | 0, hu => rw [show sw01 0 = 1 from rfl, e1]; simpa using hu
      | 1, hu => rw [show sw01 1 = 0 from rfl, e0]; simpa using hu
      | i + 2, hu =>
        rw [show sw01 (i + 2) = i + 2 by unfold sw01; rw [if_neg (by omega)]]
        have : (us.drop 2)[i]? = some u := by simpa using hu
        rw [List.getElem?_drop] at this
        rw [← this, Nat.add_comm]
  rw [hl] at key
  exact key
theorem one_way (F : Nat → Int) (sg : Int) : expand F sg 1 0 (2 ^ 1 - 1) = F 0 := by
  rw [expand_val]
  have e : monoE sg 1 0 (2 ^ 1 - 1) = [(1, [0])] := by
    show altM sg (fun v => (monoE sg 0 1 (wo8 1 v)).map fun m => (m.1, (6 * 0 + v) :: m.2)) (elems 1) = _
    rw [show elems 1 = [0] by decide]
    rfl
  rw [e]
  simp [valM, prodK]
theorem det_one {xss : List (List Int)} (h : tIn xss = true) (h1 : xss.length = 1) : detOf xss = flat xss 0 ∧ permOf xss = flat xss 0 := by
  unfold detOf permOf
  rw [if_pos h, if_pos h, h1]
  exact ⟨one_way _ _, one_way _ _⟩

/-- A drawn table is a list of lists in new memory, with room for its rows. -/
def GivesTableC (w : World) (e : Ending) (w' : World) : Prop := ∃ v xss, e = .returned v ∧ IntRows w' v xss ∧ (∀ A m c, v = .slice A m c → xss.length ≤ c) ∧ Below w.heap.size w w'
theorem room_of_row {w : World} {b n : Nat} {e : TypeId} {v : Value} {xs : List Value} (h : w.ownsRow b e 1 v n xs) : ∀ A m c, v = .slice A m c → n ≤ c := fun A m c hv => by
  rcases h.2 with ⟨h0, hn⟩ | ⟨g, cap, cur, h0, hb, hg, hnc, hm, hcs, htake⟩
  · omega
  · rw [h0] at hv
    obtain ⟨-, -, rfl⟩ : _ ∧ _ ∧ cap = c := by simpa using hv
    exact hnc

end Go.Proofs.YtfcbhcjgjbcjdacDoor
