/-
  spec.l8Widest: the greatest cost of a choice; it is a measure.
-/
import Derived.Test.YtjbgjebbfkhidabDoorSpecQLeast
import Derived.Test.YtjbgjebbfkhidabDoorBestQ
namespace Go.Proofs.YtjbgjebbfkhidabDoor
set_option linter.unusedVariables false
set_option linter.unusedSimpArgs false
open Go.RowKit

def wideTo (xss : List (List Int)) (ps : List Int) : Nat → Int
  | 0 => minI
  | k + 1 => max (wideTo xss ps k) ((xss.getD k []).getD (ps.getD k 0).toNat 0)
def wide8 (xss : List (List Int)) (ps : List Int) : Int := wideTo xss ps ps.length
theorem Choice.wide {xss : List (List Int)} {ps : List Int} (h : Choice xss ps) : ∀ k, k ≤ ps.length → minI ≤ wideTo xss ps k ∧ wideTo xss ps k ≤ 1000
  | 0, _ => by simp [wideTo, minI]
  | k + 1, hk => by
    have ih := h.wide k (by omega)
    obtain ⟨m, hk2, hm, -, -, he, hb1, hb2⟩ := h.at (show k < ps.length by omega)
    show minI ≤ max (wideTo xss ps k) _ ∧ max (wideTo xss ps k) _ ≤ _
    rw [he]
    omega

set_option maxRecDepth 100000 in
set_option maxHeartbeats 2000000 in
theorem l8Widest_any (w : World) (v u : Value) (xss : List (List Int)) (ps : List Int) (hv : IntRows w v xss) (hu : Ints w u ps) (h : Choice xss ps) :
    Calls Tryd.prog 55 #[v, u] w fun e w' => e = .returned (.int .i64 (wide8 xss ps)) ∧ ∃ q, w' = w.drewN q := by
  obtain ⟨A, cap, rfl, hm, hc⟩ := hv.at
  obtain ⟨A2, cap2, rfl, hm2, hc2⟩ := hu
  have HC := Lib.hid hc
  have HC2 := Lib.hid hc2
  have HCH := Lib.hid h
  unfold maxLen at hm hm2
  have h0l : 0 < ps.length := by have := h.len; have := h.h1; omega
  have HLN := Lib.hid h.len
  obtain ⟨m, hk2, hmm, hpm, hmn, he, hb1, hb2⟩ := h.at h0l
  obtain ⟨b, off, u, rfl, hcell, hints⟩ := hc 0 hk2
  obtain ⟨A3, cap3, rfl, hm3, hc3⟩ := hints
  obtain ⟨b3, off3, rfl, hcell3⟩ := hc3 m hmm
  obtain ⟨b2, off2, rfl, hcell2⟩ := hc2 0 h0l
  rw [hpm] at hcell2
  obtain ⟨z, hz⟩ : ∃ z, xss[0][m] = z := ⟨_, rfl⟩
  have hz1 : wideTo xss ps 1 = z := by
    show max minI ((xss.getD 0 []).getD (ps.getD 0 0).toNat 0) = z
    rw [he, hz]
    rw [hz] at hb1
    unfold minI
    omega
  have HZ1 := Lib.hid hz1
  rw [hz] at hcell3
  have hmi : (m : Int) < (xss[0].length : Int) := by omega
  have hm0 : (0 : Int) ≤ (m : Int) := by omega
  have h0x : 0 < xss.length := hk2
  try simp only [Nat.add_zero] at hcell hcell2
  clear hc hc2 hv h hc3 hpm he hb1 hb2 hz hz1
  go_enter Tryd.func55, Tryd.ntmps55
  go_wp2
  go_quiet (fail)
  rename_i nq
  clear hcell hcell2 hcell3 hmi hm0 h0x hmm hmn
  go_wp2
  go_loopw [5, 6] (fun s i wr => ∃ k q : Nat, 1 ≤ k ∧ k ≤ ps.length ∧ i = .int .i64 k ∧ s = .int .i64 (wideTo xss ps k) ∧ wr = w.drewN q) (fun _ i _ => ps.length - (intOf i).toNat)
  case atStart => exact ⟨1, nq, by omega, by omega, rfl, by rw [HZ1.out], by first | rfl | simp⟩
  case round =>
    obtain ⟨k, q, hk1, hk, rfl, rfl, rfl⟩ := hrel
    by_cases hlt : k < ps.length
    · obtain ⟨m, hk2, hmm, hpm, hmn, he, hb1, hb2⟩ := HCH.out.at hlt
      obtain ⟨b, off, u, hA, hcell, hints⟩ := HC.out k hk2
      obtain ⟨rfl, rfl⟩ : _ ∧ _ := by simpa using hA
      obtain ⟨A3, cap3, rfl, hm3, hc3⟩ := hints
      obtain ⟨b3, off3, rfl, hcell3⟩ := hc3 m hmm
      obtain ⟨b2, off2, hA2, hcell2⟩ := HC2.out k hlt
      obtain ⟨rfl, rfl⟩ : _ ∧ _ := by simpa using hA2
      rw [hpm] at hcell2
      have hst : wideTo xss ps (k + 1) = max (wideTo xss ps k) xss[k][m] := by rw [← he]; rfl
      obtain ⟨z, hz⟩ : ∃ z, xss[k][m] = z := ⟨_, rfl⟩
      rw [hz] at hcell3 hst
      obtain ⟨s, hs⟩ : ∃ s, wideTo xss ps k = s := ⟨_, rfl⟩
      rw [hs] at hst ⊢
      have hmx : (if s < z then z else s) = wideTo xss ps (k + 1) := by rw [hst]; omega
      have HMX := Lib.hid hmx
      have hki : (k : Int) < (ps.length : Int) := by omega
      have hki2 : (k : Int) < (xss.length : Int) := by omega
      have hk0 : (0 : Int) ≤ (k : Int) := by omega
      have hmi : (m : Int) < (xss[k].length : Int) := by omega
      have hm0 : (0 : Int) ≤ (m : Int) := by omega
      unfold maxLen at hm3
      clear hc3 hpm hmm he hz hs hst hb1 hb2 hmx
      go_wp2
      go_quiet (fail)
      go_wp2
      go_roundw
      case rel => exact ⟨k + 1, q + nq, by omega, by omega, by go_num, by rw [← HMX.out], by simp⟩
      case measure => simp [intOf]; omega
    · obtain rfl : k = ps.length := by omega
      go_wp2
      go_ret
      exact ⟨rfl, q, rfl⟩

theorem wide_meas (xss : List (List Int)) : ∀ (p : List Nat), (∀ v ∈ p, v < 6) → p.length ≤ xss.length → wide8 xss (p.map Int.ofNat) = meas max minI (flat xss) 0 p := by
  intro p h6 hl
  have key : ∀ k, k ≤ p.length → max (wideTo xss (p.map Int.ofNat) k) (meas max minI (flat xss) k (p.drop k)) = max minI (meas max minI (flat xss) 0 p) := by
    intro k
    induction k with
    | zero => intro _; rfl
    | succ k ih =>
      intro hk
      rw [← ih (by omega)]
      have hdr : p.drop k = p[k] :: p.drop (k + 1) := List.drop_eq_getElem_cons (by omega)
      rw [hdr]
      show max (max (wideTo xss (p.map Int.ofNat) k) ((xss.getD k []).getD ((p.map Int.ofNat).getD k 0).toNat 0)) (meas max minI (flat xss) (k + 1) (p.drop (k + 1))) = max (wideTo xss (p.map Int.ofNat) k) (max (meas max minI (flat xss) (k + 1) (p.drop (k + 1))) (flat xss (6 * k + p[k])))
      have e1 : ((p.map Int.ofNat).getD k 0).toNat = p[k] := by
        have : k < p.length := by omega
        simp [List.getD, List.getElem?_eq_getElem this]
      have e2 : flat xss (6 * k + p[k]) = (xss.getD k []).getD p[k] 0 := by
        have := h6 p[k] (List.getElem_mem _)
        unfold flat
        rw [show (6 * k + p[k]) / 6 = k by omega, show (6 * k + p[k]) % 6 = p[k] by omega]
      rw [e1, e2]; omega
  have hge : ∀ (q : List Nat) (row : Nat), minI ≤ meas max minI (flat xss) row q := by
    intro q
    induction q with
    | nil => intro _; exact Int.le_refl _
    | cons a q ih =>
      intro row
      have := ih (row + 1)
      show minI ≤ max _ _
      omega
  have hw : ∀ k, minI ≤ wideTo xss (p.map Int.ofNat) k := by
    intro k
    induction k with
    | zero => exact Int.le_refl _
    | succ k ih => show minI ≤ max _ _; omega
  have := key p.length (Nat.le_refl _)
  rw [List.drop_length] at this
  unfold wide8
  rw [List.length_map]
  have h1 := hge p 0
  have h2 := hw p.length
  have h3 : meas max minI (flat xss) p.length [] = minI := rfl
  rw [h3] at this
  omega

end Go.Proofs.YtjbgjebbfkhidabDoor
