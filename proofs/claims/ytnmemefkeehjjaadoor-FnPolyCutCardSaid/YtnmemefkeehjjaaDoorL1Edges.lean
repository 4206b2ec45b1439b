/-
  spec.l1Edges: all edges, in order.
-/
import Derived.Test.YtnmemefkeehjjaaDoorCore2
import Derived.Test.YtnmemefkeehjjaaDoorRowsPush
import Derived.Test.YtnmemefkeehjjaaDoorPairs
import Derived.Test.YtnmemefkeehjjaaDoorPart1
import Derived.OwnWalk
namespace Go.Proofs.YtnmemefkeehjjaaDoor
set_option linter.unusedVariables false
set_option linter.unusedSimpArgs false
open Go.RowKit

set_option maxRecDepth 100000 in
set_option maxHeartbeats 4000000 in
theorem l1Edges_any (w : World) (v : Value) (xs : List Int) (h : Ints w v xs) (h8 : xs.length ≤ 8) (hpw : ∀ i, gfun xs i < 2 ^ xs.length) (hrow : ∀ i (hi : i < xs.length), xs[i] = (gfun xs i : Int) ∧ gfun xs i < 256) :
    Calls Tryd.prog 67 #[v] w fun e w' => ∃ r us, e = .returned r ∧ Below w.heap.size w w' ∧ OwnsRows w' w.heap.size w'.heap.size r us (pairsOf (gfun xs) xs.length) := by
  obtain ⟨i0, hi, hz0, hz1, hz2⟩ := info_parts infoRow
  have HV := Lib.hid h
  have HR := Lib.hid hrow
  have HP := Lib.hid hpw
  obtain ⟨A, cap, rfl, hm, _⟩ := h
  have hmd := World.ownsRow_made (base := w.heap.size) (e := 22) (size := 1) w #[] 0 (Nat.le_refl _) (Nat.zero_le _) rfl
  have HMD := Lib.hid hmd
  clear hrow hpw hmd
  go_enter Tryd.func67, Tryd.ntmps67
  go_wp2
  go_loopw [3, 4, 5] (fun r a _ wr => ∃ (k : Nat) (us : List Value), k ≤ xs.length ∧ a = .int .i64 k ∧ Below w.heap.size w wr ∧ OwnsRows wr w.heap.size wr.heap.size r us ((pairsTo (gfun xs) xs.length k).map pairL)) (fun _ a _ _ => xs.length - (intOf a).toNat)
  case atStart => exact ⟨0, [], by omega, rfl, (Below.refl _ _).alloc (Nat.le_refl _) _, owns_rows_nil _ _ _ HMD.out⟩
  case round =>
    obtain ⟨k, us, hk, rfl, hb, hrs⟩ := hrel
    have HRS := Lib.hid hrs
    clear hrs
    by_cases hlt : k < xs.length
    · have hki : (k : Int) < (xs.length : Int) := by omega
      have hk8 : k < 8 := by omega
      go_wp2
      go_loopw [3, 5] (fun r b wr => ∃ (j : Nat) (us : List Value), k + 1 ≤ j ∧ j ≤ xs.length ∧ b = .int .i64 j ∧ Below w.heap.size w wr ∧ OwnsRows wr w.heap.size wr.heap.size r us ((pairsTo (gfun xs) xs.length k ++ (upTo (gfun xs k) k j).map (fun b => ((⟨k, hk8⟩ : Fin 8), b))).map pairL)) (fun _ b _ => xs.length - (intOf b).toNat)
      case atStart => exact ⟨k + 1, us, by omega, by omega, by go_num, hb, by rw [upTo_start, List.map_nil, List.append_nil]; exact HRS.out⟩
      case round =>
        obtain ⟨j, us2, hj1, hj2, rfl, hb2, hrs2⟩ := hrel
        have hrl := hrs2.len
        have HR2 := Lib.hid hrs2
        clear hrs2
        by_cases hlj : j < xs.length
        · have hji : (j : Int) < (xs.length : Int) := by omega
          obtain ⟨hx, hx2⟩ := HR.out k hlt
          cases hbt : (gfun xs k).testBit j with
          | false =>
            have hh := l1Has_q wr _ xs k j _ (HV.out.below hb2) hlt hx hx2 (by omega) false hbt
            have hup := upTo_no (m := gfun xs k) (a := k) (k := j) hx2 hk8 (by omega) hbt
            have HH := Lib.hid hh
            have HU := Lib.hid hup
            clear hh hup hx hbt
            go_wp2_with (go_at_call 90; refine HH.out.mono ?_; rintro e w' ⟨rfl, rfl⟩)
            go_roundw
            case rel => exact ⟨j + 1, us2, by omega, by omega, by go_num, hb2, by rw [HU.out]; exact HR2.out⟩
            case measure => simp [intOf]; omega
          | true =>
            have hh := l1Has_q wr _ xs k j _ (HV.out.below hb2) hlt hx hx2 (by omega) true hbt
            have hup := upTo_yes (m := gfun xs k) (a := k) (k := j) hx2 (by omega) (by omega) hbt
            have HH := Lib.hid hh
            have HU := Lib.hid hup
            have hlen : us2.length < 100 := by
              have h1 := pairsTo_len (gfun xs) xs.length k
              have h2 := upTo_len (gfun xs k) k j
              rw [hrl]; simp; omega
            have hro := HR2.out.outer.1
            rw [← hrl] at hro
            have hbs := hb2.size
            clear hh hup hx hbt hrl
            go_wp2_with (first
              | (go_at_call 90; refine HH.out.mono ?_; rintro e w' ⟨rfl, rfl⟩)
              | (at_builtin; (refine wpList_append_own _ rfl _ _ 23 rfl w.heap.size 22 i0 (.slice none 0 0) 1 24 Tryd.underlying23 hi hz0 hz1 hz2 rfl (by decide) _ _ _ rfl ((hro.alloc _).alloc _) ⟨w'.heap.size + 1, 0, none⟩ 1 1 [.slice (some ⟨w'.heap.size, 0, none⟩) 2 2] rfl rfl ?q1 ?q2 ?q3 ?q4 ?q5 ?_; rotate_left 5; intro v' w3 hown' hgrow _)))
            case q1 =>
              have := cell_one_new (w'.alloc (.cells #[.int .i64 (k : Int), .int .i64 (j : Int)] 3)) (.slice (some ⟨w'.heap.size, 0, none⟩) 2 2) 22
              rw [World.size_alloc] at this
              exact this
            case q2 => intro z hz; rw [List.mem_singleton.1 hz]; rfl
            case q3 => unfold maxLen; omega
            case q4 => omega
            case q5 => simp; omega
            have hin : Owns ((w'.alloc (.cells #[.int .i64 (k : Int), .int .i64 (j : Int)] 3)).alloc (.cells #[.slice (some ⟨w'.heap.size, 0, none⟩) 2 2] 22)) w'.heap.size (.slice (some ⟨w'.heap.size, 0, none⟩) 2 2) (pairL (⟨k, hk8⟩, ⟨j, by omega⟩)) :=
              (World.ownsRow_lit (base := w'.heap.size) (e := 3) (size := 1) w' #[.int .i64 (k : Int), .int .i64 (j : Int)] 2 (Nat.le_refl _) (by unfold maxLen; omega) (by simp)).alloc _
            have hb4 : Below w'.heap.size w' ((w'.alloc (.cells #[.int .i64 (k : Int), .int .i64 (j : Int)] 3)).alloc (.cells #[.slice (some ⟨w'.heap.size, 0, none⟩) 2 2] 22)) := ((Below.refl _ _).alloc (Nat.le_refl _) _).alloc (by simp) _
            have hps := HR2.out.push hbs hb4 hin hown' hgrow
            have hb5 : Below w.heap.size w w3 := ((hb2.alloc hbs (.cells #[.int .i64 (k : Int), .int .i64 (j : Int)] 3)).alloc (by simp; omega) (.cells #[.slice (some ⟨w'.heap.size, 0, none⟩) 2 2] 22)).grown hgrow (by simp; omega) (fun b hb => (hro.lt b hb).1)
            go_wp2
            go_roundw
            case rel =>
              refine ⟨j + 1, us2 ++ [.slice (some ⟨w'.heap.size, 0, none⟩) 2 2], by omega, by omega, by go_num, hb5, ?_⟩
              rw [HU.out]
              simpa only [List.map_append, List.map_cons, List.map_nil, List.append_assoc] using hps
            case measure => simp [intOf]; omega
        · obtain rfl : j = xs.length := by omega
          go_wp2
          go_roundw
          case rel =>
            refine ⟨k + 1, us2, by omega, by go_num, hb2, ?_⟩
            rw [pairsTo_succ hk8]
            exact HR2.out
          case measure => simp [intOf]; omega
    · obtain rfl : k = xs.length := by omega
      go_wp2
      go_ret
      exact ⟨_, us, rfl, hb, HRS.out⟩

end Go.Proofs.YtnmemefkeehjjaaDoor
