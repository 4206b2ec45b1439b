/-
  spec.l5Expand: the same sum, by recursion.
-/
import Derived.Test.YtfcbhcjgjbcjdacDoorExpand
import Derived.Test.YtfcbhcjgjbcjdacDoorTIn
import Derived.Test.YtfcbhcjgjbcjdacDoorFlat
import Derived.Test.YtfcbhcjgjbcjdacDoorTFacts
import Derived.Test.YtfcbhcjgjbcjdacDoorShr
import Derived.Deep.QuietTactic
import Derived.BigQuiet
namespace Go.Proofs.YtfcbhcjgjbcjdacDoor
set_option linter.unusedVariables false
set_option linter.unusedSimpArgs false
open Go.RowKit

theorem sumS_one (term : Nat → Int) (l : List Nat) : (sumS 1 term l).2 = 1 := by
  unfold sumS
  have key : ∀ (l : List Nat) (s : Int × Int), s.2 = 1 → (l.foldl (sumStep 1 term) s).2 = 1 := by
    intro l
    induction l with
    | nil => exact fun s h => h
    | cons v t ih =>
      intro s h
      rw [List.foldl_cons]
      refine ih _ ?_
      show s.2 * 1 = 1
      omega
  exact key l _ rfl
theorem bit_under : ∀ (v : Fin 8) (m : Fin 256) (n : Fin 7), m.val < 2 ^ n.val → m.val.testBit v.val = true → v.val < n.val := by decide +kernel
theorem below8_len (m c : Nat) : (below8 m c).length ≤ 8 := Nat.le_trans (List.length_filter_le _ _) (by rw [elems_len]; exact bitsOf_len8 m)
theorem mem_below8 {m c v : Nat} (h : v ∈ below8 m c) : v < 8 ∧ m.testBit v = true := by
  unfold below8 at h
  exact mem_elems.1 (List.mem_filter.1 h).1

set_option maxRecDepth 100000 in
set_option maxHeartbeats 4000000 in
theorem l5Exp_any (xss : List (List Int)) (ht : tIn xss = true) (b : Bool) (sg : Int) (hsg : sg = if b = true then -1 else 1) : ∀ (d : Nat) (w : World) (v : Value) (row left : Nat), IntRows w v xss → row + d = xss.length → left < 2 ^ xss.length → (bitsOf left).length = d →
    Calls Tryd.prog 60 #[v, .int .i64 (row : Int), .int .i64 (left : Int), .bool b] w fun e w' => e = .returned (.int .i64 (expand (flat xss) sg d row left)) ∧ ∃ q, w' = w.drewN q := by
  have hs2 : sg = 1 ∨ sg = -1 := by rw [hsg]; cases b <;> simp
  intro d
  induction d with
  | zero =>
    intro w v row left h hrd _ _
    obtain ⟨A, cap, rfl, hm, hc⟩ := h.at
    have hrn : row = xss.length := by omega
    have e1 : ((row : Int) == (xss.length : Int)) = true := by simp [hrn]
    clear hc h hrn hrd
    go_enter Tryd.func60, Tryd.ntmps60
    go_wp2
    go_ret
    exact ⟨rfl, 0, rfl⟩
  | succ d ih =>
    intro w v row left h hrd hleft hlen
    obtain ⟨h1, h6, hr⟩ := tIn_facts ht
    have hl256 : left < 256 := Nat.lt_of_lt_of_le hleft (Nat.le_trans (Nat.pow_le_pow_right (by decide) h6) (by decide))
    have hrow : row < xss.length := by omega
    have e1 : ((row : Int) == (xss.length : Int)) = false := by rw [beq_eq_false_iff_ne]; omega
    have hf := flat_small ht
    obtain ⟨term, hterm⟩ : ∃ term : Nat → Int, (fun v => flat xss (6 * row + v) * expand (flat xss) sg d (row + 1) (wo8 left v)) = term := ⟨_, rfl⟩
    have htm : ∀ k, k < 8 → left.testBit k = true → (-18000000000000 ≤ term k ∧ term k ≤ 18000000000000) := fun k h8 hb => by
      rw [← hterm]
      exact (term_bound hf hs2 (row := row) hl256 (show d ≤ 5 by omega) hlen h8 hb).1
    have hexp : expand (flat xss) sg (d + 1) row left = (sumS sg term (below8 left xss.length)).1 := by
      rw [below8_all (fun v hv => by
        obtain ⟨h8, hb⟩ := mem_elems.1 hv
        exact bit_under ⟨v, h8⟩ ⟨left, hl256⟩ ⟨xss.length, by omega⟩ hleft hb), ← hterm]
      rfl
    rw [hexp]
    have hrows := h
    obtain ⟨A, cap, rfl, hm, hc⟩ := h.at
    have HIH := Lib.hid ih
    have HC := Lib.hid hc
    have HR := Lib.hid hr
    have HT := Lib.hid (And.intro hterm htm)
    have HB := Lib.hid (And.intro hl256 (And.intro hleft (And.intro hlen (And.intro hsg hs2))))
    have HH := Lib.hid hrows
    clear ih hc hr hterm htm hl256 hleft hlen hsg hs2 hrows h hexp hf ht
    unfold maxLen at hm
    go_enter Tryd.func60, Tryd.ntmps60
    go_wp2
    go_loopw [9, 10, 11, 12] (fun s g c _ wr => ∃ k q : Nat, k ≤ xss.length ∧ c = .int .i64 k ∧ s = .int .i64 (sumS sg term (below8 left k)).1 ∧ g = .int .i64 (sumS sg term (below8 left k)).2 ∧ wr = w.drewN q) (fun _ _ c _ _ => xss.length - (intOf c).toNat)
    case atStart => exact ⟨0, 0, by omega, rfl, by rw [below8_zero]; rfl, by rw [below8_zero]; rfl, rfl⟩
    case round =>
      obtain ⟨k, q, hk, rfl, rfl, rfl, hw⟩ := hrel
      by_cases hlt : k < xss.length
      · have hk8 : k < 8 := by omega
        have hki : (k : Int) < (xss.length : Int) := by omega
        cases hbt : left.testBit k with
        | false =>
          obtain ⟨t1, t0⟩ := shr_is left k HB.out.1 false hbt
          have hst := below8_step ⟨k, hk8⟩ ⟨left, HB.out.1⟩
          simp only [hbt, Bool.false_eq_true, if_false] at hst
          have HST := Lib.hid hst
          have HW := Lib.hid hw
          clear hst hbt hw
          go_wp2
          go_roundw
          case rel => exact ⟨k + 1, q, by omega, by go_num, by rw [HST.out], by rw [HST.out], HW.out⟩
          case measure => simp [intOf]; omega
        | true =>
          obtain ⟨t1, t0⟩ := shr_is left k HB.out.1 true hbt
          obtain ⟨hl256, hleft, hlen, hsg, hs2⟩ := HB.out
          have hst := below8_step ⟨k, hk8⟩ ⟨left, hl256⟩
          simp only [hbt, if_true] at hst
          have hsn := sumS_snoc sg term (below8 left k) k
          rw [← hst] at hsn
          have hsb := sumS_bound hs2 (below8 left k) (fun v hv => HT.out.2 v (mem_below8 hv).1 (mem_below8 hv).2)
          have hll := below8_len left k
          have hgs := sumS_sign hs2 term (below8 left k)
          have hg1 : b = false → (sumS sg term (below8 left k)).2 = 1 := fun e => by rw [hsg, e]; exact sumS_one _ _
          have htk := HT.out.2 k hk8 hbt
          have hte : flat xss (6 * row + k) * expand (flat xss) sg d (row + 1) (wo8 left k) = term k := congrFun HT.out.1 k
          have hcall := fun (W : World) (hW : IntRows W (.slice A xss.length cap) xss) => HIH.out W _ (row + 1) (wo8 left k) hW (by omega) (Nat.lt_of_le_of_lt Nat.and_le_left hleft) (by have := wo8_len hl256 hk8 hbt; omega)
          obtain ⟨bb, off, u, rfl, hcell, hints⟩ := HC.out row hrow
          obtain ⟨A2, cap2, rfl, hm2, hc2⟩ := hints
          have hrl := (HR.out row hrow).1
          obtain ⟨b2, off2, rfl, hcell2⟩ := hc2 k (by omega)
          have hx := flat_at xss hrow (show k < xss[row].length by omega) (by omega)
          rw [hx] at hte
          obtain ⟨n2, hn2⟩ : ∃ n2, xss[row].length = n2 := ⟨_, rfl⟩
          obtain ⟨x, hxe⟩ : ∃ x, xss[row][k] = x := ⟨_, rfl⟩
          obtain ⟨E, hE⟩ : ∃ E, expand (flat xss) sg d (row + 1) (wo8 left k) = E := ⟨_, rfl⟩
          obtain ⟨y, hy⟩ : ∃ y, wo8 left k = y := ⟨_, rfl⟩
          obtain ⟨a, ha⟩ : ∃ a, (sumS sg term (below8 left k)).1 = a := ⟨_, rfl⟩
          obtain ⟨g, hg⟩ : ∃ g, (sumS sg term (below8 left k)).2 = g := ⟨_, rfl⟩
          obtain ⟨r1, hr1⟩ : ∃ r1, row + 1 = r1 := ⟨_, rfl⟩
          have han : bits .andNot .i64 (left : Int) (IntKind.i64.wrap (2 ^ k)) = (y : Int) := by
            rw [wrap_eq, pow_wrap (by omega), andNot64 left _ hl256 (pow7_lt hk8), ← hy]; rfl
          have han2 := han
          rw [wrap_eq] at han2
          rw [hE, hy, hr1] at hcall
          rw [hn2] at hrl hcell
          rw [hxe] at hcell2 hte
          rw [hE] at hte
          unfold sumStep at hsn
          rw [ha, hg, ← hte] at hsn
          rw [ha] at hsb ⊢
          rw [hg] at hgs hg1 ⊢
          rw [← hte] at htk
          obtain ⟨p, hp⟩ : ∃ p, x * E = p := ⟨_, rfl⟩
          rw [hp] at hsn htk
          have hab : -144000000000000 ≤ a ∧ a ≤ 144000000000000 := by omega
          have hr1w : IntKind.i64.wrap ((row : Int) + 1) = (r1 : Int) := by rw [IntKind.wrap_i64]; omega
          have hpw := wrap_big p (by omega) (by omega)
          have hrow0 : (0 : Int) ≤ (row : Int) := by omega
          have hrowi : (row : Int) < (xss.length : Int) := by omega
          have hk0 : (0 : Int) ≤ (k : Int) := by omega
          have hkn : (k : Int) < (n2 : Int) := by omega
          obtain ⟨hpw1, hpw2⟩ := hpw
          have HCALL := Lib.hid hcall
          have hcellw : wr.cell? ⟨bb, off + row, none⟩ = some (.slice (some ⟨b2, off2, none⟩) n2 cap2) := by rw [hw]; exact hcell
          have hcellx : wr.cell? ⟨b2, off2 + k, none⟩ = some (.int .i64 x) := by rw [hw]; exact hcell2
          have hhw : IntRows wr (.slice (some ⟨bb, off, none⟩) xss.length cap) xss := by rw [hw]; exact HH.out.drewN q
          have HHW := Lib.hid hhw
          have HWQ := Lib.hid hw
          clear hw hhw hcell hcell2
          cases b with
          | false =>
            have hg1' := hg1 rfl
            have hsgv : sg = 1 := by rw [hsg]; rfl
            subst hg1'
            obtain ⟨z, hz⟩ : ∃ z, a + p = z := ⟨_, rfl⟩
            have hzw := wrap_big z (by omega) (by omega)
            obtain ⟨hz1, hz2⟩ := hzw
            have hsn2 : sumS sg term (below8 left (k + 1)) = (z, 1) := by rw [hsn, hsgv, ← hz, Int.one_mul]; rfl
            have HSN := Lib.hid hsn2
            clear hsn hsn2 hab htk hgs hg1 hcall hsb hll hrl hx hn2 hxe hE hy ha hg hr1 hte hst hsg hs2 hlen hleft hl256 hc2 hm2 hbt hsgv
            go_wp2
            go_quiet ((go_at_call 60; with_reducible exact Calls.quiet_of (HCALL.out _ (HHW.out.drewN _))))
            clear hpw1 hpw2 hr1w han han2 hp
            go_wp2
            clear hz1 hz2
            go_roundw
            case rel =>
              obtain ⟨q2, hq2⟩ := drews_of (m := nq) HWQ.out
              exact ⟨k + 1, q2, by omega, by go_num, by rw [HSN.out], by rw [HSN.out], hq2⟩
            case measure => simp [intOf]; omega
          | true =>
            have hsgv : sg = -1 := by rw [hsg]; rfl
            obtain ⟨m, hm'⟩ : ∃ m, p * g = m := ⟨_, rfl⟩
            obtain ⟨z, hz⟩ : ∃ z, a + m = z := ⟨_, rfl⟩
            obtain ⟨r, hr'⟩ : ∃ r, 0 - g = r := ⟨_, rfl⟩
            have hmb : -18000000000000 ≤ m ∧ m ≤ 18000000000000 := by rw [← hm']; rcases hgs with e | e <;> rw [e] <;> constructor <;> omega
            obtain ⟨hm1, hm2'⟩ := wrap_big m (by omega) (by omega)
            obtain ⟨hz1, hz2⟩ := wrap_big z (by omega) (by omega)
            obtain ⟨hr1', hr2'⟩ := wrap_big r (by omega) (by omega)
            have hsn2 : sumS sg term (below8 left (k + 1)) = (z, r) := by rw [hsn, hsgv, Int.mul_comm g p, hm', hz, Int.mul_neg, Int.mul_one, ← hr', Int.zero_sub]
            have HSN := Lib.hid hsn2
            clear hsn hsn2 hab htk hgs hg1 hcall hsb hll hrl hx hn2 hxe hE hy ha hg hr1 hte hst hsg hs2 hlen hleft hl256 hc2 hm2 hbt hsgv hmb
            go_wp2
            go_quiet ((go_at_call 60; with_reducible exact Calls.quiet_of (HCALL.out _ (HHW.out.drewN _))))
            clear hpw1 hpw2 hr1w han han2 hp
            go_wp2
            clear hz1 hz2 hm1 hm2' hr1' hr2'
            go_roundw
            case rel =>
              obtain ⟨q2, hq2⟩ := drews_of (m := nq) HWQ.out
              exact ⟨k + 1, q2, by omega, by go_num, by rw [HSN.out], by rw [HSN.out], hq2⟩
            case measure => simp [intOf]; omega
      · obtain rfl : k = xss.length := by omega
        have HW := Lib.hid hw
        clear hw
        go_wp2
        go_ret
        exact ⟨rfl, q, HW.out⟩

end Go.Proofs.YtfcbhcjgjbcjdacDoor
