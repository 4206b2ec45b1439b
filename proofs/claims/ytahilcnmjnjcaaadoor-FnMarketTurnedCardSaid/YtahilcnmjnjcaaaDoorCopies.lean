/-
  spec.l6sCopies: the lists of a market copied.
-/
import Derived.Test.YtahilcnmjnjcaaaDoorBlocks
import Derived.Deep.AppendLies
namespace Go.Proofs.YtahilcnmjnjcaaaDoor
set_option linter.unusedVariables false
set_option linter.unusedSimpArgs false
open Go.RowKit

set_option maxRecDepth 100000 in
set_option maxHeartbeats 2000000 in
theorem copies_any (w : World) (v : Value) (xss : List (List Int)) (n : Nat) (h1 : 1 ≤ n) (h5 : n ≤ 5) (hl : xss.length ≤ 5) (hr : ∀ i (hi : i < xss.length), xss[i].length = n) (h : IntRows w v xss) :
    Calls Tryd.prog 59 #[v] w (GivesRowsV w xss) := by
  obtain ⟨i0, hi, hz0, hz1, hz2⟩ := info_parts infoRow
  obtain ⟨j0, hj, hy0, hy1, hy2⟩ := info_parts infoOrder
  obtain ⟨A, cap, rfl, hm, hc⟩ := h.at
  have HC := Lib.hid hc
  have HR := Lib.hid hr
  have HL5 := Lib.hid hl
  clear hc hr h
  unfold maxLen at hm
  obtain ⟨w0, hw0⟩ : ∃ w0, w.alloc (.cells #[] 39) = w0 := ⟨_, rfl⟩
  have hb0 : Below w.heap.size w w0 := by rw [← hw0]; exact (Below.refl _ _).alloc (Nat.le_refl _) _
  have hown : w0.ownsRow w.heap.size 39 1 (.slice (some ⟨w.heap.size, 0, none⟩) 0 0) 0 [] := by
    rw [← hw0]
    exact World.ownsRow_made (base := w.heap.size) (e := 39) (size := 1) w #[] 0 (Nat.le_refl _) (Nat.zero_le _) rfl
  have HST := Lib.hid (And.intro hb0 (owns_rows_nil w0 w.heap.size _ hown))
  clear hb0 hown
  go_enter Tryd.func59, Tryd.ntmps59
  go_wp2
  clear hw0
  go_loopw [3, 4] (fun r i wr => ∃ (k : Nat) (us : List Value), k ≤ xss.length ∧ i = .int .i64 k ∧ Below w.heap.size w wr ∧ OwnsRows wr w.heap.size wr.heap.size r us (xss.take k)) (fun _ i _ => xss.length - (intOf i).toNat)
  case atStart => exact ⟨0, [], by omega, rfl, HST.out.1, HST.out.2⟩
  case round =>
    obtain ⟨k, us, hk, rfl, hb, hrs⟩ := hrel
    have HRS := Lib.hid hrs
    have HB := Lib.hid hb
    by_cases hlt : k < xss.length
    · obtain ⟨b, off, u, rfl, hcell0, hu⟩ := HC.out k hlt
      have hlen := HR.out k hlt
      obtain ⟨A2, cap2, rfl, hm2, hc2⟩ := hu.below hb
      obtain ⟨b2, o2, rfl⟩ : ∃ b2 o2, A2 = some ⟨b2, o2, none⟩ := by obtain ⟨b2, o2, h, _⟩ := hc2 0 (by omega); exact ⟨b2, o2, h⟩
      rw [hlen] at hcell0
      have hcell := (hb.cell (p := ⟨b, off + k, none⟩) (World.block_lt_of_cell? w _ hcell0)).trans hcell0
      have hcellA := (show (wr.alloc (.cells #[] 3)).cell? ⟨b, off + k, none⟩ = some (.slice (some ⟨b2, o2, none⟩) n cap2) by rw [World.cell?_alloc_past _ _ _ (World.block_lt_of_cell? wr _ hcell)]; exact hcell)
      have hnews : ∀ (j : Nat) (u : Value), (vals xss[k])[j]? = some u → (wr.alloc (.cells #[] 3)).cell? ((⟨b2, o2, none⟩ : Addr).add j) = some u := by
        intro j u hu
        have hj : j < xss[k].length := by
          have := (List.getElem?_eq_some_iff.1 hu).1
          simpa using this
        have hu' : u = .int .i64 xss[k][j] := by simpa [hj] using hu.symm
        obtain ⟨b', off', he, hcell⟩ := hc2 j hj
        cases he
        have hadd : (⟨b2, o2, none⟩ : Addr).add j = ⟨b2, o2 + j, none⟩ := by unfold Addr.add; split <;> simp_all
        rw [hadd, World.cell?_alloc_past _ _ _ (World.block_lt_of_cell? wr _ hcell), hcell, hu']
      have hown0 := owns_empty wr wr.heap.size (Nat.le_refl _)
      have hl1 : (vals xss[k]).length = n * 1 := by rw [← hlen]; simp
      have h11 : ∀ u ∈ vals xss[k], u.oneCell' = true := by intro u hu; simp at hu; obtain ⟨x, _, rfl⟩ := hu; rfl
      have q1 : 0 < n := h1
      have q2 : 0 + n ≤ maxLen := by unfold maxLen; omega
      have q3 : (0 + n) * 8 ≤ 140737488355328 := by omega
      have q4 : wr.heap.size ≤ (wr.alloc (.cells #[] 3)).heap.size := by simp
      have HN := Lib.hid hnews
      have HLL := Lib.hid hl1
      have H11 := Lib.hid h11
      have HLEN := Lib.hid hlen
      have hki : (k : Int) < (xss.length : Int) := by omega
      have hk0 : (0 : Int) ≤ (k : Int) := by omega
      clear hnews hl1 h11 hc2 hm2 hu hcell0 hlen hrs hb
      have hro := HRS.out.outer.1
      have hrl := HRS.out.len
      rw [← hrl] at hro
      have hul : us.length ≤ 5 := by have := HL5.out; rw [hrl]; simp; omega
      have hbs := HB.out.size
      clear hrl
      go_wp2_with (at_builtin; first
        | (refine wpList_append_lies _ rfl (.tmp 13) (.tmp 17) 39 rfl wr.heap.size 3 j0 (.int .i64 0) 1 8 Tryd.underlying39 hj hy0 hy1 hy2 rfl (by decide) (.slice (some ⟨wr.heap.size, 0, none⟩) 0 0) 0 [] rfl hown0 ⟨b2, o2, none⟩ n cap2 (vals xss[k]) rfl HLL.out HN.out H11.out q1 q2 q3 q4 _ rfl ?_; intro g cap1 w1 hown1 hgrow1 _ _)
        | (refine wpList_append_own _ rfl _ _ 22 rfl w.heap.size 39 i0 (.slice none 0 0) 1 24 Tryd.underlying22 hi hz0 hz1 hz2 rfl (by decide) _ _ _ rfl ((owns_below hro (((Below.refl wr.heap.size wr).alloc (Nat.le_refl _) _).grown hgrow1 (by simp) (fun k hk => by cases hk; exact Nat.le_refl _))).alloc _) ⟨w1.heap.size, 0, none⟩ 1 1 [.slice (some ⟨g, 0, none⟩) n cap1] rfl rfl (cell_one_new _ _ _) ?q2 ?q3 ?q4 ?q5 ?_; rotate_left 4; intro v' w3 hown' hgrow _))
      case q2 => intro z hz; rw [List.mem_singleton.1 hz]; rfl
      case q3 => unfold maxLen; omega
      case q4 => omega
      case q5 =>
        have := hgrow1.size
        simp at this ⊢; omega
      have hb1 : Below wr.heap.size wr w1 := ((Below.refl wr.heap.size wr).alloc (Nat.le_refl _) _).grown hgrow1 (by simp) (fun k hk => by cases hk; exact Nat.le_refl _)
      have hb4 : Below wr.heap.size wr (w1.alloc (.cells #[.slice (some ⟨g, 0, none⟩) n cap1] 39)) := hb1.alloc hb1.size _
      have hin : Owns (w1.alloc (.cells #[.slice (some ⟨g, 0, none⟩) n cap1] 39)) wr.heap.size (.slice (some ⟨g, 0, none⟩) n cap1) xss[k] := by
        have h3 : Owns w1 wr.heap.size (.slice (some ⟨g, 0, none⟩) n cap1) xss[k] := by
          unfold Owns
          rw [HLEN.out]
          simpa using hown1
        exact h3.alloc _
      have hps := HRS.out.push hbs hb4 hin hown' hgrow
      have HPS := Lib.hid hps
      have hb5 : Below w.heap.size w w3 := (step_below HB.out hb4).grown hgrow (Nat.le_trans hbs hb4.size) (fun k hk => (HRS.out.outer.1.lt k hk).1)
      have HB5 := Lib.hid hb5
      clear hps hb5 hb4 hin hown' hgrow hro hb1 hown1 hgrow1
      go_wp2
      go_roundw
      case rel =>
        refine ⟨k + 1, us ++ [.slice (some ⟨g, 0, none⟩) n cap1], by omega, by go_num, HB5.out, ?_⟩
        rw [List.take_succ_eq_append_getElem hlt]
        exact HPS.out
      case measure => simp [intOf]; omega
    · obtain rfl : k = xss.length := by omega
      rw [List.take_length] at hrs
      have HR2 := Lib.hid hrs
      clear hrs hb
      obtain ⟨Ar, cr, rfl⟩ := owns_rows_slice HR2.out
      go_wp2
      go_ret
      exact ⟨_, _, us, rfl, HB.out, HR2.out⟩

end Go.Proofs.YtahilcnmjnjcaaaDoor
