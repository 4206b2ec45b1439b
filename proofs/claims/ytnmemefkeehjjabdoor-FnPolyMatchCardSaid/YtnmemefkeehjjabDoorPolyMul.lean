/-
  impl.poly[int]: times, derived, valueAt: their contracts.
-/
import Derived.Test.YtnmemefkeehjjabDoorPolyOps
namespace Go.Proofs.YtnmemefkeehjjabDoor
set_option linter.unusedVariables false
set_option linter.unusedSimpArgs false
open Go.RowKit

theorem box1_below (w : World) (o : Obj) : Below w.heap.size w (w.alloc o) := (Below.refl _ _).alloc (Nat.le_refl _) _

theorem derived1_enter (args : Array Value) (W : World) : (callFunc 65 args).run Tryd.prog W = .ok (.enter 65 args) W := by go_simp
set_option maxHeartbeats 1000000 in
theorem derived1_any (vp : Value) (p : List Int) (hp : within 1000000000 p = true) (k : Nat) (hk : k ≤ 100) (Bp : Nat) (w : World)
    (cp : w.cell? ⟨Bp, 0, none⟩ = some vp) (ip : Ints w vp p) :
    Calls Tryd.prog 65 #[.int .i64 (k : Int), .pointer (some ⟨Bp, 0, none⟩)] w fun e w' => e = .returned (.int .i64 (((k + 1 : Nat) : Int) * co p (k + 1))) ∧ ∃ n, w' = w.drewN n := by
  have hb := within_co hp (by omega) (k + 1)
  have hm := mul_bound (a := ((k + 1 : Nat) : Int)) (b := co p (k + 1)) (x := 101) (y := 1000000000) (by omega) hb
  have HP := Lib.hid (fun W (h : Ints W vp p) => of_nat W vp p h (k + 1) (by omega))
  have IP := Lib.hid ip
  obtain ⟨c, hc⟩ : ∃ c, co p (k + 1) = c := ⟨_, rfl⟩
  rw [hc] at HP hm hb ⊢
  obtain ⟨j, hj⟩ : ∃ j : Nat, k + 1 = j := ⟨_, rfl⟩
  rw [hj] at HP hm ⊢
  have w1 : (k : Int) + 1 = (j : Int) := by omega
  have w2 : IntKind.i64.wrap ((k : Int) + 1) = (j : Int) := by rw [IntWalk.i64_in _ (by omega)]; exact w1
  obtain ⟨m1, m2⟩ := hm
  have w3 : IntKind.i64.wrap ((j : Int) * c) = (j : Int) * c := IntWalk.i64_in _ (by omega)
  clear hc hj ip hb hp
  go_enter Tryd.func65, Tryd.ntmps65
  go_wp2_with (go_at_call 66; refine (HP.out _ IP.out).mono ?_; rintro e w' ⟨rfl, rfl⟩)
  go_ret
  exact ⟨rfl, 0, rfl⟩

set_option maxHeartbeats 1000000 in
theorem derived_any (vp : Value) (p : List Int) (hp : within 1000000000 p = true) (lp : p.length ≤ 50) (w : World) (ip : Ints w vp p) :
    Calls Tryd.prog 33 #[vp] w fun e w' => ∃ u, e = .returned u ∧ Below w.heap.size w w' ∧ Owns w' w.heap.size u (trim (derL p)) := by
  have IP := Lib.hid ip
  have cb : (w.alloc (.cells #[vp] 49)).cell? ⟨w.heap.size, 0, none⟩ = some vp := cell_box w vp _
  have hb0 := box1_below w (.cells #[vp] 49)
  obtain ⟨A, cap, rfl, hm, hc⟩ := ip
  by_cases h0 : p.length = 0
  · obtain rfl : p = [] := by simpa using h0
    have HD := Lib.hid (polyOf_neg (w.alloc (.cells #[.slice A ([] : List Int).length cap] 49)) (-1) (by omega) 65 #[.pointer (some ⟨w.heap.size, 0, none⟩)])
    have HB := Lib.hid hb0
    clear h0 hc hm cb hb0
    go_enter Tryd.func33, Tryd.ntmps33
    go_wp2_with fail
    refine HD.out.mono ?_
    rintro e w1 ⟨u, rfl, hb, ho⟩
    go_wp2
    go_ret
    exact ⟨u, rfl, step_below HB.out hb, owns_mono ho HB.out.size⟩
  · have hl1 : 1 ≤ p.length := by omega
    have hrun := polyOf_nat (w.alloc (.cells #[.slice A p.length cap] 49)) (p.length - 1) (by omega) 65 #[.pointer (some ⟨w.heap.size, 0, none⟩)] (fun k => ((k + 1 : Nat) : Int) * co p (k + 1)) derived1_enter (by
      intro k W hk hb
      refine (derived1_any (.slice A p.length cap) p hp k (by omega) w.heap.size W ((hb.cell (p := ⟨w.heap.size, 0, none⟩) (by simp)).trans cb) ((IP.out.below hb0).below hb)).mono ?_
      rintro e w' ⟨rfl, n, rfl⟩
      exact ⟨rfl, below_drewN (Below.refl _ _) n⟩)
    have e1 : ((p.length - 1 : Nat) : Int) = (p.length : Int) - 1 := by omega
    rw [e1] at hrun
    have HD := Lib.hid hrun
    have HB := Lib.hid hb0
    clear h0 hc hm cb hb0 hrun e1
    have hl2 : 1 ≤ (p.length : Int) := by omega
    go_enter Tryd.func33, Tryd.ntmps33
    go_wp2_with fail
    refine HD.out.mono ?_
    rintro e w1 ⟨u, rfl, hb, ho⟩
    go_wp2
    go_ret
    exact ⟨u, rfl, step_below HB.out hb, owns_mono ho HB.out.size⟩

theorem horner_lim {x : Int} (hx : -20 ≤ x ∧ x ≤ 20) {p : List Int} (hp : within 100000 p = true) {k : Nat} (hk : p.length ≤ k + 8) : -3782285936100000 ≤ horner x (p.drop k) ∧ horner x (p.drop k) ≤ 3782285936100000 := by
  have hw : within 100000 (p.drop k) = true := within_of fun i hi => by
    rw [List.getElem_drop]; exact within_at hp _
  have h := horner_bound hx hw
  have hl : (p.drop k).length ≤ 8 := by rw [List.length_drop]; omega
  have hpow : (21 : Int) ^ (p.drop k).length ≤ 21 ^ 8 := by
    have hn := Nat.pow_le_pow_right (n := 21) (by decide) hl
    have e : ∀ n : Nat, (21 : Int) ^ n = ((21 ^ n : Nat) : Int) := fun n => by rw [Int.natCast_pow]; rfl
    rw [e, e]
    exact Int.ofNat_le.2 hn
  have e8 : (21 : Int) ^ 8 = 37822859361 := by decide
  rw [e8] at hpow
  omega



theorem convTo_far {p q : List Int} {m : Nat} (h : p.length + q.length - 1 ≤ m) : convTo p q p.length m = 0 := by
  refine sumTo_zeros fun i hi => ?_
  split
  · rw [co_out (p := q) (by omega)]; simp
  · simp
theorem trim_mulL (p q : List Int) : trim (tab (p.length + q.length - 1) (convTo p q p.length)) = trim (mulL p q) := by
  refine trim_ext fun i => ?_
  rw [co_tab, co_mulL]
  split
  · rfl
  · rw [convTo_far (by omega)]


end Go.Proofs.YtnmemefkeehjjabDoor
