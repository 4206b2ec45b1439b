/-
  impl.poly[int]: times, derived, valueAt: their contracts.
-/
import Derived.Test.YtejbeglchholhaaDoorPolyOps
namespace Go.Proofs.YtejbeglchholhaaDoor
set_option linter.unusedVariables false
set_option linter.unusedSimpArgs false
open Go.RowKit

theorem box1_below (w : World) (o : Obj) : Below w.heap.size w (w.alloc o) := (Below.refl _ _).alloc (Nat.le_refl _) _



theorem horner_lim {x : Int} (hx : -20 ≤ x ∧ x ≤ 20) {p : List Int} (hp : within 100000 p = true) {k : Nat} (hk : p.length ≤ k + 8) : -3782285936100000 ≤ horner x (p.drop k) ∧ horner x (p.drop k) ≤ 3782285936100000 := by
  have hw : within 100000 (p.drop k) = true := within_of fun i hi => by
    rw [List.getElem_drop]; exact within_at hp _
  have h := horner_bound hx hw
  have hl : (p.drop k).length ≤ 8 := by rw [List.length_drop]; omega
  have hpow : (21 : Int) ^ (p.drop k).length ≤ 21 ^ 8 := by
    have hn := Nat.pow_le_pow_right (n := 21) (by decide) hl
    have e : ∀ n : Nat, (21 : Int) ^ n = ((21 ^ n : Nat) : Int) := fun n => by rw [Int.natCast_pow]; rfl
    rw [e, e]
    exact Int.ofNat_le.2 hn
  have e8 : (21 : Int) ^ 8 = 37822859361 := by decide
  rw [e8] at hpow
  omega


theorem times1_enter (args : Array Value) (W : World) : (callFunc 42 args).run Tryd.prog W = .ok (.enter 42 args) W := by go_simp
set_option maxHeartbeats 1000000 in
theorem times1_any (vp vq : Value) (p q : List Int) (hp : within 100000 p = true) (hq : within 100000 q = true) (lp : p.length ≤ 21) (m : Nat) (hm : m ≤ 100) (Bp Bq : Nat) (w : World)
    (cp : w.cell? ⟨Bp, 0, none⟩ = some vp) (cq : w.cell? ⟨Bq, 0, none⟩ = some vq) (ip : Ints w vp p) (iq : Ints w vq q) :
    Calls Tryd.prog 42 #[.int .i64 (m : Int), .pointer (some ⟨Bp, 0, none⟩), .pointer (some ⟨Bq, 0, none⟩)] w fun e w' => e = .returned (.int .i64 (convTo p q p.length m)) ∧ ∃ n, w' = w.drewN n := by
  obtain ⟨A, cap, rfl, hm, hc⟩ := ip
  have HC := Lib.hid hc
  have IQ := Lib.hid iq
  have HP := Lib.hid hp
  have HQ := Lib.hid hq
  have MQ := Lib.hid cq
  clear hc iq hp hq
  go_enter Tryd.func42, Tryd.ntmps42
  go_wp2
  go_loop [5, 10] (fun v i => ∃ k : Nat, k ≤ p.length ∧ i = .int .i64 k ∧ v = .int .i64 (convTo p q k m)) (fun _ i => p.length - (intOf i).toNat)
  case atStart => exact ⟨0, Nat.zero_le _, rfl, rfl⟩
  case round =>
    obtain ⟨k, hk, rfl, rfl⟩ := hrel
    by_cases hlt : k < p.length
    · obtain ⟨b, off, rfl, hcell⟩ := HC.out k hlt
      have hs := convTo_bound (p := p) (q := q) (x := 100000) (y := 100000) (by omega) (by omega) HP.out HQ.out k m
      have hn := convTo_succ p q k m
      rw [co_at hlt] at hn
      obtain ⟨c, hc0⟩ : ∃ c, (if k ≤ m then co q (m - k) else 0) = c := ⟨_, rfl⟩
      have hof : ∀ W, Ints W vq q → Calls Tryd.prog 43 #[vq, .int .i64 ((m : Int) - (k : Int))] W fun e w' => e = .returned (.int .i64 c) ∧ W = w' := by
        intro W h
        rw [← hc0]
        by_cases hkm : k ≤ m
        · rw [if_pos hkm]
          have e : (m : Int) - (k : Int) = ((m - k : Nat) : Int) := by omega
          rw [e]
          exact of_nat W vq q h _ (by omega)
        · rw [if_neg hkm]
          exact of_neg W vq q h _ (by omega)
      have hcb : -100000 ≤ c ∧ c ≤ 100000 := by
        rw [← hc0]
        split
        · exact within_co HQ.out (by omega) _
        · omega
      rw [hc0] at hn
      have hz := within_at HP.out hlt
      obtain ⟨z, hz0⟩ : ∃ z, p[k] = z := ⟨_, rfl⟩
      rw [hz0] at hcell hz hn
      have hzc := mul_bound hz hcb
      obtain ⟨m1, m2⟩ := hzc
      obtain ⟨s, hs0⟩ : ∃ s, convTo p q k m = s := ⟨_, rfl⟩
      rw [hs0] at hs hn ⊢
      have hs1 : -210000000000 ≤ s ∧ s ≤ 210000000000 := by omega
      obtain ⟨s1, s2⟩ := hs1
      have HN := Lib.hid hn
      have HF := Lib.hid hof
      clear hs hn hof hc0 hz0 hs0 hz hcb
      go_wp2_with (go_at_call 43; refine (HF.out _ IQ.out).mono ?_; rintro e w' ⟨rfl, rfl⟩)
      go_round
      case rel => exact ⟨k + 1, by omega, by go_num, by rw [HN.out]⟩
      case measure => simp [intOf]; omega
    · obtain rfl : k = p.length := by omega
      go_wp2
      go_ret
      exact ⟨rfl, 0, rfl⟩

theorem convTo_far {p q : List Int} {m : Nat} (h : p.length + q.length - 1 ≤ m) : convTo p q p.length m = 0 := by
  refine sumTo_zeros fun i hi => ?_
  split
  · rw [co_out (p := q) (by omega)]; simp
  · simp
theorem trim_mulL (p q : List Int) : trim (tab (p.length + q.length - 1) (convTo p q p.length)) = trim (mulL p q) := by
  refine trim_ext fun i => ?_
  rw [co_tab, co_mulL]
  split
  · rfl
  · rw [convTo_far (by omega)]

abbrev boxes2 (w : World) (a b : Value) : World := (w.alloc (.cells #[a] 60)).alloc (.cells #[b] 60)
theorem boxes2_cells (w : World) (a b : Value) : (boxes2 w a b).cell? ⟨w.heap.size, 0, none⟩ = some a ∧ (boxes2 w a b).cell? ⟨w.heap.size + 1, 0, none⟩ = some b ∧ (boxes2 w a b).heap.size = w.heap.size + 1 + 1 := by
  unfold boxes2
  refine ⟨by go_simp, by go_simp, by simp⟩

theorem times_run (vp vq : Value) (p q : List Int) (hp : within 100000 p = true) (hq : within 100000 q = true) (lp : p.length ≤ 21) (w : World) (ip : Ints w vp p) (iq : Ints w vq q) (m : Nat) (hm : m ≤ 100) :
    Calls Tryd.prog 40 #[.int .i64 (m : Int), .func (.func 42) #[] #[.pointer (some ⟨w.heap.size, 0, none⟩), .pointer (some ⟨w.heap.size + 1, 0, none⟩)]] (boxes2 w vp vq) fun e w' =>
      ∃ u, e = .returned u ∧ Below w.heap.size w w' ∧ Owns w' w.heap.size u (trim (tab m (convTo p q p.length))) := by
  obtain ⟨cp, cq, hsz⟩ := boxes2_cells w vp vq
  have hb0 : Below w.heap.size w (boxes2 w vp vq) := ((Below.refl _ _).alloc (Nat.le_refl _) _).alloc (by simp) _
  refine (polyOf_nat _ m hm _ _ (convTo p q p.length) times1_enter ?_).mono ?_
  · intro k W hk hb
    refine (times1_any vp vq p q hp hq lp k (by omega) _ _ W ?_ ?_ ((ip.below hb0).below hb) ((iq.below hb0).below hb)).mono ?_
    · exact (hb.cell (p := ⟨w.heap.size, 0, none⟩) (by simp only [hsz]; omega)).trans cp
    · exact (hb.cell (p := ⟨w.heap.size + 1, 0, none⟩) (by simp only [hsz]; omega)).trans cq
    · rintro e w' ⟨rfl, n, rfl⟩
      exact ⟨rfl, below_drewN (Below.refl _ _) n⟩
  · rintro e w' ⟨u, rfl, hb, ho⟩
    exact ⟨u, rfl, step_below hb0 hb, owns_mono ho hb0.size⟩

set_option maxHeartbeats 1000000 in
theorem times_any (vp vq : Value) (p q : List Int) (hp : within 100000 p = true) (hq : within 100000 q = true) (lp : p.length ≤ 21) (lq : q.length ≤ 21) (w : World) (ip : Ints w vp p) (iq : Ints w vq q) :
    Calls Tryd.prog 29 #[vp, vq] w fun e w' => ∃ u, e = .returned u ∧ Below w.heap.size w w' ∧ Owns w' w.heap.size u (trim (mulL p q)) := by
  have HR := Lib.hid (times_run vp vq p q hp hq lp w ip iq)
  obtain ⟨A, capA, rfl, _, _⟩ := ip
  obtain ⟨B, capB, rfl, _, _⟩ := iq
  by_cases h0 : p.length = 0 ∧ q.length = 0
  · obtain rfl : p = [] := by simpa using h0.1
    obtain rfl : q = [] := by simpa using h0.2
    have HD := Lib.hid (polyOf_neg (boxes2 w (.slice A ([] : List Int).length capA) (.slice B ([] : List Int).length capB)) (-1) (by omega) 42 #[.pointer (some ⟨w.heap.size, 0, none⟩), .pointer (some ⟨w.heap.size + 1, 0, none⟩)])
    have HB : Hid (Below w.heap.size w (boxes2 w (.slice A ([] : List Int).length capA) (.slice B ([] : List Int).length capB))) := Lib.hid (((Below.refl _ _).alloc (Nat.le_refl _) _).alloc (by simp) _)
    clear h0 HR hp hq lp lq
    go_enter Tryd.func29, Tryd.ntmps29
    go_wp2_with fail
    refine HD.out.mono ?_
    rintro e w1 ⟨u, rfl, hb, ho⟩
    go_wp2
    go_ret
    exact ⟨u, rfl, step_below HB.out hb, owns_mono ho HB.out.size⟩
  · have hl : 1 ≤ p.length + q.length := by omega
    have hrun := HR.out (p.length + q.length - 1) (by omega)
    rw [trim_mulL] at hrun
    have e1 : ((p.length + q.length - 1 : Nat) : Int) = (p.length : Int) + (q.length : Int) - 1 := by omega
    rw [e1] at hrun
    have HD := Lib.hid hrun
    clear h0 HR hrun e1 hp hq
    go_enter Tryd.func29, Tryd.ntmps29
    go_wp2_with fail
    refine HD.out.mono ?_
    rintro e w1 ⟨u, rfl, hb, ho⟩
    go_wp2
    go_ret
    exact ⟨u, rfl, hb, ho⟩

end Go.Proofs.YtejbeglchholhaaDoor
