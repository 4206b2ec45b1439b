/-
  The degrees of a graph: impl.GraphDegrees and the specification's.
-/
import Derived.Test.YthafhcocgohjaabDoorCore2
import Derived.Deep.AppendLies
import Derived.Outline
namespace Go.Proofs.YthafhcocgohjaabDoor
set_option linter.unusedVariables false
set_option linter.unusedSimpArgs false
open Go.RowKit Go.Shelf
attribute [local go_sem] Oper.semAt_some

/-- How many of the first nodes are in a set. -/
def szTo (s : Nat) : Nat → Nat
  | 0 => 0
  | k + 1 => szTo s k + (s / 2 ^ k % 2)
theorem sz_all : ∀ s : Fin 256, szTo s.val 8 = (bitsOf s.val).length := by decide +kernel
theorem szTo_le (s : Nat) : ∀ k, szTo s k ≤ k
  | 0 => Nat.le_refl _
  | k + 1 => by have := szTo_le s k; have : s / 2 ^ k % 2 < 2 := Nat.mod_lt _ (by decide); unfold szTo; omega
theorem shr_val (s v : Nat) (hs : s < 256) : bits .and .i64 ((s : Int) / 2 ^ v) 1 = ((s / 2 ^ v % 2 : Nat) : Int) := by
  have e : (s : Int) / 2 ^ v = ((s / 2 ^ v : Nat) : Int) := by simp
  have hd : s / 2 ^ v ≤ s := Nat.div_le_self _ _
  rw [e]
  have := and64 (s / 2 ^ v) 1 (by omega) (by omega)
  simp only [Int.cast_ofNat_Int] at this
  rw [this, nat_mask1]

set_option maxHeartbeats 400000 in
theorem l1Size_any (s : Nat) (hs : s < 256) (w : World) :
    Calls Tryd.prog 61 #[.int .i64 (s : Int)] w fun e w' => e = .returned (.int .i64 ((bitsOf s).length : Int)) ∧ w = w' := by
  have hend := sz_all ⟨s, hs⟩
  simp only at hend
  have HE := Lib.hid hend
  clear hend
  go_enter Tryd.func61, Tryd.ntmps61
  go_wp2
  go_loop [3, 4] (fun n i => ∃ k : Nat, k ≤ 8 ∧ i = .int .i64 k ∧ n = .int .i64 (szTo s k : Int)) (fun _ i => 8 - (intOf i).toNat)
  case atStart => exact ⟨0, by omega, rfl, rfl⟩
  case round =>
    obtain ⟨k, hk, rfl, rfl⟩ := hrel
    have hle := szTo_le s k
    obtain ⟨c, hc⟩ : ∃ c, szTo s k = c := ⟨_, rfl⟩
    by_cases hlt : k < 8
    · have hsh := shr_val s k hs
      obtain ⟨d, hd⟩ : ∃ d, s / 2 ^ k % 2 = d := ⟨_, rfl⟩
      have hd2 : d < 2 := by rw [← hd]; exact Nat.mod_lt _ (by decide)
      have hnx : szTo s (k + 1) = c + d := by rw [szTo.eq_2, hc, hd]
      rw [hd] at hsh
      rw [hc] at hle ⊢
      have HN := Lib.hid hnx
      clear hnx hc hd
      go_wp2
      go_round
      case rel => exact ⟨k + 1, by omega, by go_num, by rw [HN.out]; go_num⟩
      case measure => simp [intOf]; omega
    · obtain rfl : k = 8 := by omega
      rw [hc] at hle ⊢
      have HC := Lib.hid hc
      clear hc
      go_wp2
      go_ret
      exact ⟨by rw [← HE.out, HC.out]; rfl, rfl⟩

/-- The degree of each node. -/
def degs (f : Nat → Nat) : Nat → Nat := fun i => (bitsOf (f i)).length
def degOf (xs : List Int) : List Int := if gIn xs = true then glist xs.length (degs (gfun xs)) else []
theorem degOf_len (xs : List Int) : (degOf xs).length ≤ 1048576 := by
  unfold degOf
  split
  · rename_i h
    have := gIn_parts h
    rw [glist_len]; omega
  · simp

set_option maxRecDepth 100000 in
set_option maxHeartbeats 1000000 in
theorem specDegrees_any (w : World) (v : Value) (xs : List Int) (h : Ints w v xs) :
    Calls Tryd.prog 17 #[v] w (GivesInts w (gIn xs) (degOf xs)) := by
  obtain ⟨i0, hi, hz0, hz1, hz2⟩ := info_parts infoInt
  have hv := h
  obtain ⟨A, cap, rfl, hm, hc⟩ := h
  have HV := Lib.hid hv
  have HC := Lib.hid hc
  clear hv hc
  unfold maxLen at hm
  have hsp := fun W (hW : Ints W (.slice A xs.length cap) xs) => specIn_any W _ xs hW
  cases hg : gIn xs with
  | false =>
    have ho : degOf xs = [] := by simp [degOf, hg]
    rw [hg] at hsp
    rw [ho]
    have HSP := Lib.hid hsp
    clear hsp hg ho
    go_enter Tryd.func17, Tryd.ntmps17
    go_wp2_with (go_at_call 43; refine (HSP.out _ (HV.out.below ((Below.refl _ _).alloc (Nat.le_refl _) _))).mono ?_; rintro e w1 ⟨rfl, q, rfl⟩)
    go_ret2
    exact ⟨_, rfl, below_drewN ((Below.refl _ _).alloc (Nat.le_refl _) _) q, owns_empty w _ (Nat.le_refl _)⟩
  | true =>
    obtain ⟨h1, h8, hok⟩ := gIn_parts hg
    have ho : degOf xs = glist xs.length (degs (gfun xs)) := by simp [degOf, hg]
    rw [hg] at hsp
    rw [ho]
    have HSP := Lib.hid hsp
    have HO := Lib.hid hok
    clear hsp hg ho hok
    go_enter Tryd.func17, Tryd.ntmps17
    go_wp2_with (go_at_call 43; refine (HSP.out _ (HV.out.below ((Below.refl _ _).alloc (Nat.le_refl _) _))).mono ?_; rintro e w1 ⟨rfl, q, rfl⟩)
    go_loopw [4, 5] (fun u i wr => ∃ k : Nat, k ≤ xs.length ∧ i = .int .i64 k ∧ Below w.heap.size w wr ∧ wr.ownsRow w.heap.size 3 1 u k (vals (glist k (degs (gfun xs)))))
      (fun _ i _ => xs.length - (intOf i).toNat)
    case atStart => exact ⟨0, by omega, rfl, below_drewN ((Below.refl _ _).alloc (Nat.le_refl _) _) q, owns_empty w _ (Nat.le_refl _)⟩
    case round =>
      obtain ⟨k, hk, rfl, hb, ho⟩ := hrel
      by_cases hlt : k < xs.length
      · obtain ⟨b, off, rfl, hcell0⟩ := HC.out k hlt
        obtain ⟨hxk, hlk⟩ := row_value h8 HO.out hlt
        have hcell : wr.cell? ⟨b, off + k, none⟩ = some (.int .i64 (gfun xs k : Int)) := by
          rw [← hxk]; exact (hb.cell (p := ⟨b, off + k, none⟩) (World.block_lt_of_cell? w _ hcell0)).trans hcell0
        have hki : (k : Int) < (xs.length : Int) := by omega
        obtain ⟨d, hd⟩ : ∃ d, degs (gfun xs) k = d := ⟨_, rfl⟩
        have hsz := fun W => l1Size_any (gfun xs k) hlk W
        have e : (bitsOf (gfun xs k)).length = d := hd
        rw [e] at hsz
        have HSZ := Lib.hid hsz
        have HD := Lib.hid hd
        clear hcell0 hxk hlk hsz e hd
        go_wp2_with (first
          | (go_at_call 61; refine (HSZ.out _).mono ?_; rintro e w' ⟨rfl, rfl⟩)
          | (refine wpList_append_lies _ rfl (.tmp 17) (.tmp 23) 23 rfl w.heap.size 3 i0 (.int .i64 0) 1 8 Tryd.underlying23 hi hz0 hz1 hz2 rfl (by decide) _ _ _ rfl (ho.alloc _) ⟨wr.heap.size, 0, none⟩ 1 1 [.int .i64 (d : Int)] rfl rfl (cell_one_new _ _ _) (by simp [Value.oneCell']) (by decide) (by unfold maxLen; omega) (by omega) (by have := hb.size; simp; omega) _ rfl ?_; intro g cap w1 hown hgrow _ _))
        go_wp2
        go_roundw
        case rel =>
          refine ⟨k + 1, by omega, by go_num, ?_, ?_⟩
          · exact (hb.alloc hb.size _).grown hgrow (by have := hb.size; simp; omega) (fun j hj => (ho.lt j hj).1)
          · rw [glist_succ, HD.out]; exact hown
        case measure => simp [intOf]; omega
      · obtain rfl : k = xs.length := by omega
        have HO2 := Lib.hid ho
        clear ho
        go_wp2
        go_ret2
        refine ⟨_, rfl, hb, ?_⟩
        show World.ownsRow _ _ _ _ _ (glist xs.length _).length _
        rw [glist_len]
        exact HO2.out

end Go.Proofs.YthafhcocgohjaabDoor
