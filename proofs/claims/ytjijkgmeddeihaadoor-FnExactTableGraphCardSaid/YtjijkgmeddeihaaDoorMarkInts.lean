/-
  laws.markIntS writes k, k+1, .. into a slice that the call owns; laws.heldIntS asks whether they still stand there.
-/
import Derived.Test.YtjijkgmeddeihaaDoorBase
namespace Go.Proofs.YtjijkgmeddeihaaDoor
set_option linter.unusedVariables false
set_option linter.unusedSimpArgs false
open Go.RowKit

/-- k, k+1, .. : n numbers. -/
def marks (k : Int) (n : Nat) : List Int := (List.range n).map fun (i : Nat) => k + (i : Int)
theorem marks_len (k : Int) (n : Nat) : (marks k n).length = n := by simp [marks]
theorem marks_at (k : Int) (n i : Nat) (h : i < (marks k n).length) : (marks k n)[i] = k + i := by simp [marks]

theorem mark_list (xs : List Int) (k : Int) (i : Nat) (h : i < xs.length) :
    (vals (marks k i ++ xs.drop i)).set i (Value.int .i64 (k + i)) = vals (marks k (i + 1) ++ xs.drop (i + 1)) := by
  have e : xs.drop i = xs[i] :: xs.drop (i + 1) := List.drop_eq_getElem_cons h
  have e2 : marks k (i + 1) = marks k i ++ [k + (i : Int)] := by simp [marks, List.range_succ]
  rw [e, e2]
  simp only [vals, List.map_append, List.map_cons, List.map_nil, List.append_assoc, List.cons_append, List.nil_append, List.set_append, List.length_map, marks_len]
  simp

set_option maxHeartbeats 400000 in
theorem markIntS_any (w : World) (base : Nat) (v : Value) (xs : List Int) (k : Int) (h : Owns w base v xs) (hk0 : 0 ≤ k) (hk : k + xs.length ≤ 1000000000000) :
    Calls Tryd.prog 11 #[v, .int .i64 k] w fun e w' => e = .returned (.int .i64 (k + xs.length)) ∧ w.grownBy w' v.ownBlock ∧ Owns w' base v (marks k xs.length) := by
  rcases h.2 with ⟨rfl, hn⟩ | ⟨g, cap, cur, rfl, hb, hg, hnc, hm, hcs, htake⟩
  · have : xs = [] := by simpa using hn
    subst this
    go_enter Tryd.func11, Tryd.ntmps11
    go_wp2
    go_loopw [1, 5] (fun j i wr => j = .int .i64 k ∧ i = .int .i64 0 ∧ w = wr) (fun _ _ _ => 0)
    case atStart => exact ⟨rfl, rfl, rfl⟩
    case round =>
      obtain ⟨rfl, rfl, rfl⟩ := hrel
      go_wp2
      go_ret
      exact ⟨ret_int (by simp), World.grownBy.refl _ _, World.ownsRow_nil _ _ _ _⟩
  · clear hb hg hcs htake cur
    go_enter Tryd.func11, Tryd.ntmps11
    go_wp2
    go_loopw [1, 5] (fun j i wr => ∃ m : Nat, m ≤ xs.length ∧ i = .int .i64 m ∧ j = .int .i64 (k + m) ∧ w.grownBy wr (some g) ∧
        wr.ownsRow base 3 1 (.slice (some ⟨g, 0, none⟩) xs.length cap) xs.length (vals (marks k m ++ xs.drop m)))
      (fun _ i _ => xs.length - (intOf i).toNat)
    case atStart => exact ⟨0, Nat.zero_le _, rfl, by simp, World.grownBy.refl _ _, by simpa [marks] using h⟩
    case round =>
      obtain ⟨m, hm1, rfl, rfl, hgr, ho⟩ := hrel
      by_cases hlt : m < xs.length
      · have hf := ho.frozenAt m
        have hx := ho.cellAt m (by omega)
        have hst := ho.stored m (.int .i64 (k + m))
        have hl1 : m < (marks k m ++ xs.drop m).length := by simp [marks_len]; omega
        have hml : (marks k m ++ xs.drop m).length = xs.length := by simp [marks_len]; omega
        have hlist : (vals (marks k m ++ xs.drop m)).set m (Value.int .i64 (k + m)) = vals (marks k (m + 1) ++ xs.drop (m + 1)) := mark_list xs k m hlt
        rw [hlist] at hst
        obtain ⟨v0, hx0⟩ : ∃ v0, wr.cell? ⟨g, m, none⟩ = some v0 := by
          rw [hx, List.getElem?_eq_getElem (by simpa [vals] using hl1)]; exact ⟨_, rfl⟩
        have HO := Lib.hid hst
        have HG := Lib.hid hgr
        clear hst hx ho hlist hl1 hml hgr
        go_wp2
        go_roundw
        case rel => exact ⟨m + 1, by omega, by go_num, by go_num, grown_trans HG.out HO.out.2, HO.out.1⟩
        case measure => simp [intOf]; omega
      · obtain rfl : m = xs.length := by omega
        have HG := Lib.hid hgr
        have HO := Lib.hid ho
        clear hgr ho
        go_wp2
        go_ret
        refine ⟨rfl, HG.out, ?_⟩
        have := HO.out
        simpa [Owns, marks_len] using this


set_option maxHeartbeats 400000 in
theorem heldIntS_any (w : World) (v : Value) (k : Int) (n : Nat) (h : Ints w v (marks k n)) (hk0 : 0 ≤ k) (hk : k + n ≤ 1000000000000) :
    Calls Tryd.prog 25 #[v, .int .i64 k] w fun e w' => e = .returned (.int .i64 (k + n)) ∧ w = w' := by
  obtain ⟨A, cap, rfl, hm, hc⟩ := h
  have HC := Lib.hid hc
  clear hc
  rw [marks_len] at hm ⊢
  unfold maxLen at hm
  go_enter Tryd.func25, Tryd.ntmps25
  go_wp2
  go_loop [1, 5] (fun j i => ∃ m : Nat, m ≤ n ∧ i = .int .i64 m ∧ j = .int .i64 (k + m)) (fun _ i => n - (intOf i).toNat)
  case atStart => exact ⟨0, Nat.zero_le _, rfl, by simp⟩
  case round =>
    obtain ⟨m, hm1, rfl, rfl⟩ := hrel
    by_cases hlt : m < n
    · obtain ⟨b, off, rfl, hcell⟩ := HC.out m (by rw [marks_len]; exact hlt)
      rw [marks_at] at hcell
      go_wp2
      go_round
      case rel => exact ⟨m + 1, by omega, by go_num, by go_num⟩
      case measure => simp [intOf]; omega
    · obtain rfl : m = n := by omega
      go_wp2
      go_ret
      exact ⟨rfl, rfl⟩


end Go.Proofs.YtjijkgmeddeihaaDoor
