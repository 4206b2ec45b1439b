/-
  spec.l8Choices: all choices that begin with some columns.
-/
import Derived.Test.YtellghhilcjbnaaDoorBestI
import Derived.Test.YtellghhilcjbnaaDoorSpecPlace
import Derived.Test.YtellghhilcjbnaaDoorGrows
import Derived.Deep.AppendLies
namespace Go.Proofs.YtellghhilcjbnaaDoor
set_option linter.unusedVariables false
set_option linter.unusedSimpArgs false
open Go.RowKit

/-- What was listed before column k. -/
def chTo (n d : Nat) (beg : List Int) (k : Nat) : List (List Int) := (List.range k).flatMap fun (k : Nat) => if place beg (k : Int) = beg.length then chI n d (beg ++ [(k : Int)]) else []
theorem chTo_zero (n d : Nat) (beg : List Int) : chTo n d beg 0 = [] := rfl
theorem chTo_yes {n d : Nat} {beg : List Int} {k : Nat} (h : place beg (k : Int) = beg.length) : chTo n d beg (k + 1) = chTo n d beg k ++ chI n d (beg ++ [(k : Int)]) := by
  unfold chTo
  rw [List.range_succ, List.flatMap_append, List.flatMap_cons, List.flatMap_nil, List.append_nil, if_pos h]
theorem chTo_no {n d : Nat} {beg : List Int} {k : Nat} (h : ¬ place beg (k : Int) = beg.length) : chTo n d beg (k + 1) = chTo n d beg k := by
  unfold chTo
  rw [List.range_succ, List.flatMap_append, List.flatMap_cons, List.flatMap_nil, List.append_nil, if_neg h, List.append_nil]
theorem chI_len {n : Nat} (h6 : n ≤ 6) : ∀ (d : Nat) (beg : List Int), (chI n d beg).length ≤ 6 ^ d
  | 0, beg => by simp [chI]
  | d + 1, beg => by
    have key : ∀ k, (chTo n d beg k).length ≤ k * 6 ^ d := by
      intro k
      induction k with
      | zero => simp [chTo]
      | succ k ih =>
        rw [Nat.succ_mul]
        by_cases h : place beg (k : Int) = beg.length
        · rw [chTo_yes h, List.length_append]
          have := chI_len h6 d (beg ++ [(k : Int)])
          omega
        · rw [chTo_no h]; exact Nat.le_trans ih (Nat.le_add_right _ _)
    show (chTo n d beg n).length ≤ _
    have := key n
    rw [Nat.pow_succ, Nat.mul_comm]
    exact Nat.le_trans this (Nat.mul_le_mul_right _ h6)
theorem chTo_len {n : Nat} (h6 : n ≤ 6) (d : Nat) (beg : List Int) : ∀ k, (chTo n d beg k).length ≤ k * 6 ^ d
  | 0 => by simp [chTo]
  | k + 1 => by
    have ih := chTo_len h6 d beg k
    rw [Nat.succ_mul]
    by_cases h : place beg (k : Int) = beg.length
    · rw [chTo_yes h, List.length_append]
      have := chI_len h6 d (beg ++ [(k : Int)])
      omega
    · rw [chTo_no h]; exact Nat.le_trans ih (Nat.le_add_right _ _)

set_option maxRecDepth 100000 in
set_option maxHeartbeats 4000000 in
theorem choices_any (n : Nat) (h6 : n ≤ 6) : ∀ (d : Nat) (w : World) (gu cu : Nat) (v : Value) (beg : List Int) (us : List Value) (xss : List (List Int)) (lo : Nat), beg.length + d = n → Owns w 0 (.slice (some ⟨gu, 0, none⟩) beg.length cu) beg → OwnsRows w lo w.heap.size v us xss → lo ≤ w.heap.size →
    xss.length + 6 ^ d ≤ 100000 → (d = 0 → ∃ wB : World, OwnsRows wB lo wB.heap.size v us xss ∧ lo ≤ wB.heap.size ∧ Below wB.heap.size wB w ∧ Owns w wB.heap.size (.slice (some ⟨gu, 0, none⟩) beg.length cu) beg) →
    Calls Tryd.prog 44 #[.int .i64 (n : Int), .slice (some ⟨gu, 0, none⟩) beg.length cu, v] w fun e w' => ∃ v' us', e = .returned v' ∧ OwnsRows w' lo w'.heap.size v' us' (xss ++ chI n d beg) ∧ Longer w w' v v' := by
  intro d
  induction d with
  | zero =>
    intro w gu cu v beg us xss lo hn hu hv hlo hsz h0
    obtain ⟨i0, hi, hz0, hz1, hz2⟩ := info_parts infoRow
    obtain ⟨wB, hvB, hloB, hbB, huB⟩ := h0 rfl
    have hll : beg.length = n := by omega
    have e1 : ((beg.length : Int) == (n : Int)) = true := by simp [hll]
    have hro := hv.outer.1
    have hrl := hv.len
    rw [← hrl] at hro
    have hul : us.length ≤ 99999 := by have := hsz; rw [Nat.pow_zero] at this; omega
    have HH := Lib.hid (And.intro hvB (And.intro hloB (And.intro hbB huB)))
    have HRO := Lib.hid hro
    have HLL := Lib.hid hll
    clear hn hu hv hvB hbB huB hloB hro hsz hrl hll h0
    go_enter Tryd.func44, Tryd.ntmps44
    go_wp2_with (at_builtin; refine wpList_append_lies _ rfl _ _ 22 rfl lo 24 i0 (.slice none 0 0) 1 24 Tryd.underlying22 hi hz0 hz1 hz2 rfl (by decide) _ _ _ rfl (HRO.out.alloc _) ⟨w.heap.size, 0, none⟩ 1 1 [.slice (some ⟨gu, 0, none⟩) beg.length cu] rfl rfl (cell_one_new _ _ _) (by simp [Value.oneCell']) (by decide) (by unfold maxLen; omega) (by omega) (by simp; omega) _ rfl ?_; intro g9 c9 w3 hown3 hgrow3 hor3 hlt3)
    go_ret
    obtain ⟨hvB, hloB, hbB, huB⟩ := HH.out
    have hb2 : Below wB.heap.size wB (w.alloc (.cells #[.slice (some ⟨gu, 0, none⟩) beg.length cu] 24)) := hbB.alloc hbB.size _
    have hps := hvB.push hloB hb2 (huB.alloc _) hown3 hgrow3
    have hlg : Longer w w3 v (.slice (some ⟨g9, 0, none⟩) (us.length + 1) c9) := by
      refine ⟨⟨hgrow3.os, hgrow3.tape, hgrow3.output, ?_, fun k hk ho => (hgrow3.block k (by simp; omega) ho).trans (Below.heap_alloc _ _ _ hk)⟩, ?_⟩
      · have := hgrow3.size; simp at this; omega
      · rcases hor3 with h | h
        · exact .inl h.symm
        · right
          intro b hb
          obtain rfl : g9 = b := by simpa [Value.ownBlock] using hb
          rw [h]; simp
    exact ⟨_, _, rfl, hps, hlg⟩
  | succ d ih =>
    intro w gu cu v beg us xss lo hn hu hv hlo hsz h0
    obtain ⟨j0, hj, hy0, hy1, hy2⟩ := info_parts infoInt
    have e1 : ((beg.length : Int) == (n : Int)) = false := by rw [beq_eq_false_iff_ne]; omega
    have HU := Lib.hid hu
    have HV := Lib.hid hv
    have HSZ := Lib.hid hsz
    have HN := Lib.hid hn
    have HIH := Lib.hid ih
    have hb6 : beg.length < 6 := by omega
    clear hu hv h0 ih hsz hn
    go_enter Tryd.func44, Tryd.ntmps44
    go_wp2
    go_loopw [2, 7] (fun l kv wr => ∃ (k : Nat) (us' : List Value), k ≤ n ∧ kv = .int .i64 k ∧ OwnsRows wr lo wr.heap.size l us' (xss ++ chTo n d beg k) ∧ Longer w wr v l) (fun _ kv _ => n - (intOf kv).toNat)
    case atStart => exact ⟨0, us, by omega, rfl, by rw [chTo_zero, List.append_nil]; exact HV.out, Longer.refl _ _⟩
    case round =>
      obtain ⟨k, us', hk, rfl, hrs, hlg⟩ := hrel
      have hbeg := hlg.owns HU.out HV.out.outer.1
      by_cases hlt : k < n
      · have hki : (k : Int) < (n : Int) := by omega
        have hk0 : (0 : Int) ≤ (k : Int) := by omega
        have HPL := Lib.hid (l6mPlace_any wr _ beg (k : Int) (ints_of_owns hbeg))
        have HRS := Lib.hid hrs
        have HLG := Lib.hid hlg
        have HBEG := Lib.hid hbeg
        have hsw := hlg.1.size
        by_cases hp : place beg (k : Int) = beg.length
        · rw [hp] at HPL
          have HP := Lib.hid hp
          have hown0 := owns_empty wr wr.heap.size (Nat.le_refl _)
          have HOWN0 := Lib.hid hown0
          have hnews : ∀ j u, (vals beg)[j]? = some u → (wr.alloc (.cells #[] 3)).cell? ((⟨gu, 0, none⟩ : Addr).add j) = some u := fun j u hu => by
            have := HBEG.out.cells (g := gu) rfl j u hu
            exact ((Below.refl wr.heap.size wr).alloc (Nat.le_refl _) (.cells #[] 3)).cell (World.block_lt_of_cell? wr _ this) ▸ this
          have HNEWS := Lib.hid hnews
          have q1 : (vals beg).length = beg.length * 1 := by simp [vals]
          have q2 : ∀ u ∈ vals beg, u.oneCell' = true := fun u hu => by
            obtain ⟨x, _, rfl⟩ := List.mem_map.1 hu; rfl
          have HQ := Lib.hid (And.intro q1 q2)
          clear hp hrs hlg hbeg hown0 hnews q1 q2
          go_wp2_with (first
            | (go_at_call 60; refine HPL.out.mono ?_; rintro e w1 ⟨rfl, rfl⟩)
            | (at_builtin; refine wpList_append_own _ rfl (.tmp 28) (.tmp 29) 24 rfl wr.heap.size 3 j0 (.int .i64 0) 1 8 Tryd.underlying24 hj hy0 hy1 hy2 rfl (by decide) _ _ _ rfl HOWN0.out ⟨gu, 0, none⟩ beg.length cu (vals beg) rfl HQ.out.1 HNEWS.out HQ.out.2 (by unfold maxLen; simp; omega) (by simp; omega) (by simp) ?_; intro v1 w1 hown1 hgrow1 _; replace hown1 : w1.ownsRow wr.heap.size 3 1 v1 beg.length (vals beg) := (by simpa using hown1))
            | (at_builtin; refine wpList_append_lies _ rfl (.tmp 30) (.tmp 32) 24 rfl wr.heap.size 3 j0 (.int .i64 0) 1 8 Tryd.underlying24 hj hy0 hy1 hy2 rfl (by decide) _ _ _ rfl (hown1.alloc _) ⟨w1.heap.size, 0, none⟩ 1 1 [.int .i64 (k : Int)] rfl rfl (cell_one_new _ _ _) (by simp [Value.oneCell']) (by decide) (by unfold maxLen; omega) (by omega) (by have := hgrow1.size; simp at this ⊢; omega) _ rfl ?_; intro g2 c2 w2 hown2 hgrow2 hor2 hlt2))
          have hbA : Below wr.heap.size wr (wr.alloc (.cells #[] 3)) := (Below.refl _ _).alloc (Nat.le_refl _) _
          have hb1 : Below wr.heap.size wr w1 := hbA.grown hgrow1 hbA.size (fun j hj => by cases hj; exact Nat.le_refl _)
          have hb1a : Below wr.heap.size wr (w1.alloc (.cells #[.int .i64 (k : Int)] 3)) := hb1.alloc hb1.size _
          have hb2 : Below wr.heap.size wr w2 := hb1a.grown hgrow2 hb1a.size (fun j hj => (hown1.lt j hj).1)
          have hlen : (beg ++ [(k : Int)]).length = beg.length + 1 := by simp
          have hown2' : Owns w2 wr.heap.size (.slice (some ⟨g2, 0, none⟩) (beg ++ [(k : Int)]).length c2) (beg ++ [(k : Int)]) := by
            unfold Owns
            rw [hlen]
            simpa [vals] using hown2
          have hcl := chTo_len h6 d beg k
          have hsz2 : (xss ++ chTo n d beg k).length + 6 ^ d ≤ 100000 := by
            have := HSZ.out
            rw [Nat.pow_succ] at this
            rw [List.length_append]
            have h5 : k * 6 ^ d ≤ 5 * 6 ^ d := Nat.mul_le_mul_right _ (by omega)
            omega
          have HC := Lib.hid (HIH.out w2 g2 c2 u2 (beg ++ [(k : Int)]) us' (xss ++ chTo n d beg k) lo (by have := HN.out; rw [hlen]; omega) (owns_mono hown2' (Nat.zero_le _)) ((HRS.out.below hb2).wide (Nat.le_refl _) hb2.size) (Nat.le_trans hlo (Nat.le_trans hsw hb2.size)) hsz2
            (fun _ => ⟨wr, HRS.out, Nat.le_trans hlo hsw, hb2, hown2'⟩))
          rw [hlen] at HC
          have HB2 := Lib.hid hb2
          clear hbA hb1 hb1a hb2 hown1 hown2 hgrow1 hgrow2 hor2 hlt2 hlen hown2' hcl hsz2
          refine HC.out.mono ?_
          rintro e w3 ⟨v3, us3, rfl, hrs3, hlg3⟩
          have HX := Lib.hid (show OwnsRows w3 lo w3.heap.size v3 us3 (xss ++ chTo n d beg (k + 1)) by rw [chTo_yes HP.out, ← List.append_assoc]; exact hrs3)
          have HL := Lib.hid (HLG.out.trans ((Longer.below HB2.out).trans hlg3))
          clear hrs3 hlg3
          go_wp2
          go_roundw
          case rel => exact ⟨k + 1, us3, by omega, by go_num, HX.out, HL.out⟩
          case measure => simp [intOf]; omega
        · have e2 : ((place beg (k : Int) : Int) == (beg.length : Int)) = false := by rw [beq_eq_false_iff_ne]; omega
          have HX := Lib.hid (show OwnsRows wr lo wr.heap.size _ us' (xss ++ chTo n d beg (k + 1)) by rw [chTo_no hp]; exact HRS.out)
          clear hp hrs hlg hbeg
          go_wp2_with (go_at_call 60; refine HPL.out.mono ?_; rintro e w1 ⟨rfl, rfl⟩)
          go_roundw
          case rel => exact ⟨k + 1, us', by omega, by go_num, HX.out, HLG.out⟩
          case measure => simp [intOf]; omega
      · obtain rfl : k = n := by omega
        have HRS := Lib.hid hrs
        have HLG := Lib.hid hlg
        clear hrs hlg hbeg
        go_wp2
        go_ret
        exact ⟨_, us', rfl, HRS.out, HLG.out⟩

end Go.Proofs.YtellghhilcjbnaaDoor
