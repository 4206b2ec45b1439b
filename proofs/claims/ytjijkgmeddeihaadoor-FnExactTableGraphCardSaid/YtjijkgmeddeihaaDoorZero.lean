/-
  spec.l5Zero: rows of zeros, made one by one.
-/
import Derived.Test.YtjijkgmeddeihaaDoorSpan
import Derived.Test.YtjijkgmeddeihaaDoorRowsPush
import Derived.Test.YtjijkgmeddeihaaDoorMarkInts
import Derived.OwnWalk
import Derived.Maps.AppendAt
namespace Go.Proofs.YtjijkgmeddeihaaDoor
set_option linter.unusedVariables false
set_option linter.unusedSimpArgs false
open Go.RowKit

def zrow (n : Nat) : List Int := List.replicate n 0
def zrows (n : Nat) : List (List Int) := List.replicate n (zrow n)
theorem zrow_vals (n : Nat) : vals (zrow n) = List.replicate n (.int .i64 0) := by simp [vals, zrow]
theorem zrow_len (n : Nat) : (zrow n).length = n := by simp [zrow]
set_option maxRecDepth 100000 in
set_option maxHeartbeats 4000000 in
theorem zero_any (n : Nat) (h6 : n ≤ 6) (w : World) :
    Calls Tryd.prog 21 #[.int .i64 (n : Int)] w fun e w' => ∃ r us, e = .returned r ∧ Below w.heap.size w w' ∧ OwnsRows w' w.heap.size w'.heap.size r us (zrows n) := by
  obtain ⟨i0, hi, hz0, hz1, hz2⟩ := info_parts infoRow
  have hmk := fun W => run_make_row' (P := Tryd.prog) 22 3 (.int .i64 0) 8 Tryd.underlying22 infoInt rfl .i64 .i64 n (by omega) (by omega) W
  have hmd := World.ownsRow_made (base := w.heap.size) (e := 22) (size := 1) w #[] 0 (Nat.le_refl _) (Nat.zero_le _) rfl
  have HMD := Lib.hid hmd
  clear hmd
  go_enter Tryd.func21, Tryd.ntmps21
  go_wp2
  go_loopw [3, 4] (fun r a wr => ∃ (k : Nat) (us : List Value), k ≤ n ∧ a = .int .i64 k ∧ us.length = k ∧ Below w.heap.size w wr ∧ OwnsRows wr w.heap.size wr.heap.size r us (List.replicate k (zrow n))) (fun _ a _ => n - (intOf a).toNat)
  case atStart => exact ⟨0, [], by omega, rfl, rfl, (Below.refl _ _).alloc (Nat.le_refl _) _, owns_rows_nil _ _ _ HMD.out⟩
  case round =>
    obtain ⟨k, us, hk, rfl, hul, hb, hrs⟩ := hrel
    have HRS := Lib.hid hrs
    by_cases hlt : k < n
    · have hki : (k : Int) < (n : Int) := by omega
      have hro := hrs.outer.1
      rw [← hrs.len] at hro
      have hbs := hb.size
      have hlen : us.length < 100 := by omega
      have HUL := Lib.hid hul
      clear hrs hul
      go_wp2_with (at_builtin; (refine wpList_append_own _ rfl _ _ 23 rfl w.heap.size 22 i0 (.slice none 0 0) 1 24 Tryd.underlying23 hi hz0 hz1 hz2 rfl (by decide) _ _ _ rfl ((hro.alloc _).alloc _) ⟨wr.heap.size + 1, 0, none⟩ 1 1 [.slice (some ⟨wr.heap.size, 0, none⟩) n n] rfl rfl ?q1 ?q2 ?q3 ?q4 ?q5 ?_; rotate_left 5; intro v' w3 hown' hgrow _))
      case q1 =>
        have := cell_one_new (wr.alloc (.cells (madeCells #[.int .i64 0] n) 3)) (.slice (some ⟨wr.heap.size, 0, none⟩) n n) 22
        rw [World.size_alloc] at this
        exact this
      case q2 => intro z hz; rw [List.mem_singleton.1 hz]; rfl
      case q3 => unfold maxLen; omega
      case q4 => omega
      case q5 => simp; omega
      have hin : Owns ((wr.alloc (.cells (madeCells #[.int .i64 0] n) 3)).alloc (.cells #[.slice (some ⟨wr.heap.size, 0, none⟩) n n] 22)) wr.heap.size (.slice (some ⟨wr.heap.size, 0, none⟩) n n) (zrow n) := by
        have := World.ownsRow_lit (base := wr.heap.size) (e := 3) (size := 1) wr (madeCells #[.int .i64 0] n) n (Nat.le_refl _) (by unfold maxLen; omega) (by simp [madeCells])
        rw [toList_madeCells_one, ← zrow_vals] at this
        have h2 := this.alloc (.cells #[.slice (some ⟨wr.heap.size, 0, none⟩) n n] 22)
        unfold Owns
        rw [zrow_len]
        exact h2
      have hb4 : Below wr.heap.size wr ((wr.alloc (.cells (madeCells #[.int .i64 0] n) 3)).alloc (.cells #[.slice (some ⟨wr.heap.size, 0, none⟩) n n] 22)) := ((Below.refl _ _).alloc (Nat.le_refl _) _).alloc (by simp) _
      have hps := HRS.out.push hbs hb4 hin hown' hgrow
      have hb5 : Below w.heap.size w w3 := ((hb.alloc hbs (.cells (madeCells #[.int .i64 0] n) 3)).alloc (by simp; omega) (.cells #[.slice (some ⟨wr.heap.size, 0, none⟩) n n] 22)).grown hgrow (by simp; omega) (fun b hb => (hro.lt b hb).1)
      go_wp2
      go_roundw
      case rel =>
        refine ⟨k + 1, us ++ [.slice (some ⟨wr.heap.size, 0, none⟩) n n], by omega, by go_num, by simp [HUL.out], hb5, ?_⟩
        rw [List.replicate_succ']
        exact hps
      case measure => simp [intOf]; omega
    · obtain rfl : k = n := by omega
      clear hrs hul
      go_wp2
      go_ret
      exact ⟨_, us, rfl, hb, HRS.out⟩

theorem vals_set2 (xs : List Int) (i : Nat) (y : Int) : (vals xs).set i (.int .i64 y) = vals (xs.set i y) := by simp [vals, List.map_set]
theorem owns_top {W : World} {lo lo' hi : Nat} {v : Value} {us : List Value} {xss : List (List Int)} (h : OwnsRows W lo hi v us xss) (hl : lo' ≤ lo) : OwnsRows W lo' W.heap.size v us xss :=
  ⟨h.len, OwnsAt.of (owns_mono h.outer.1 hl), fun i hi => OwnsAt.of (owns_mono (h.inner i hi).1 hl), h.apart⟩

end Go.Proofs.YtjijkgmeddeihaaDoor
