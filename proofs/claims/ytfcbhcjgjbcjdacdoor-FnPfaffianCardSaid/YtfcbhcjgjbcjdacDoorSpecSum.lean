/-
  spec.l5Sum, spec.l5Whole: the same sum over pairings, by recursion.
-/
import Derived.Test.YtfcbhcjgjbcjdacDoorMates
import Derived.Test.YtfcbhcjgjbcjdacDoorSpecExp
namespace Go.Proofs.YtfcbhcjgjbcjdacDoor
set_option linter.unusedVariables false
set_option linter.unusedSimpArgs false
open Go.RowKit

set_option maxRecDepth 100000 in
set_option maxHeartbeats 4000000 in
theorem l5Sum_any (xss : List (List Int)) (ht : tIn xss = true) (b : Bool) (sg : Int) (hsg : sg = if b = true then -1 else 1) : ∀ (d : Nat) (w : World) (v : Value) (left : Nat), d ≤ 6 → IntRows w v xss → left < 2 ^ xss.length → (bitsOf left).length = d →
    Calls Tryd.prog 90 #[v, .int .i64 (left : Int), .bool b] w fun e w' => e = .returned (.int .i64 (mates (flat xss) sg d left)) ∧ ∃ q, w' = w.drewN q := by
  have hs2 : sg = 1 ∨ sg = -1 := by rw [hsg]; cases b <;> simp
  intro d
  induction d using Nat.strongRecOn with
  | ind d ih =>
  intro w v left hd6 h hleft hlen
  obtain ⟨h1, h6, hr⟩ := tIn_facts ht
  have hl256 : left < 256 := Nat.lt_of_lt_of_le hleft (Nat.le_trans (Nat.pow_le_pow_right (by decide) h6) (by decide))
  cases d with
  | zero =>
    have h0 : left = 0 := len_zero hl256 hlen
    subst h0
    obtain ⟨A, cap, rfl, hm, hc⟩ := h.at
    clear hc h ih hr hsg hs2
    go_enter Tryd.func90, Tryd.ntmps90
    go_wp2
    go_ret
    exact ⟨rfl, 0, rfl⟩
  | succ d =>
    have hne := ne_of_len hlen
    have hne' : ((left : Int) == 0) = false := by
      rw [beq_eq_false_iff_ne]
      omega
    have hf := flat_small ht
    have hlow : lowN left < xss.length := bit_under ⟨lowN left, lowN_lt left⟩ ⟨left, hl256⟩ ⟨xss.length, by omega⟩ hleft (lowN_bit hl256 hne)
    have hrlen := rest_len hl256 hlen
    have hb0 := below8_rest hl256
    have hms := mates_succ (flat xss) sg hl256 hlen
    have htm : ∀ k, k < 8 → (wo8 left (lowN left)).testBit k = true → (-18000000000000 ≤ mateT (flat xss) sg d left k ∧ mateT (flat xss) sg d left k ≤ 18000000000000) := fun k h8 hb =>
      mateT_bound hf hs2 hl256 (show d ≤ 5 by omega) hlen h8 hb
    have hte : ∀ k, flat xss (6 * lowN left + k) * mates (flat xss) sg (d - 1) (wo8 (wo8 left (lowN left)) k) = mateT (flat xss) sg d left k := fun k => rfl
    have hlb := lowN_bit hl256 hne
    have hll := fun j (hj : j < lowN left) => lowN_least hl256 hj
    have hrl : wo8 left (lowN left) < 2 ^ xss.length := Nat.lt_of_le_of_lt Nat.and_le_left hleft
    have hr256 : wo8 left (lowN left) < 256 := wo8_lt hl256
    have han : bits .andNot .i64 (left : Int) (IntKind.i64.wrap (2 ^ lowN left)) = ((wo8 left (lowN left) : Nat) : Int) := by
      rw [wrap_eq, pow_wrap (by have := lowN_lt left; omega), andNot64 left _ hl256 (pow7_lt (lowN_lt left))]; rfl
    obtain ⟨term, hterm⟩ : ∃ term : Nat → Int, mateT (flat xss) sg d left = term := ⟨_, rfl⟩
    obtain ⟨rest, hrest⟩ : ∃ rest, wo8 left (lowN left) = rest := ⟨_, rfl⟩
    obtain ⟨row, hrow⟩ : ∃ row, lowN left = row := ⟨_, rfl⟩
    rw [hrest] at hrlen hb0 hms htm hrl hr256 han
    simp only [hrest] at hte
    simp only [hterm] at hms htm hte
    simp only [hrow] at hlow hb0 hte hlb hll han
    have hexp : mates (flat xss) sg (d + 1) left = (sumS sg term (below8 rest xss.length)).1 := by
      rw [hms, below8_all (fun v hv => by
        obtain ⟨h8, hb⟩ := mem_elems.1 hv
        exact bit_under ⟨v, h8⟩ ⟨rest, hr256⟩ ⟨xss.length, by omega⟩ hrl hb)]
    rw [hexp]
    have hrows := h
    obtain ⟨A, cap, rfl, hm, hc⟩ := h.at
    have han2 := han
    rw [wrap_eq] at han2
    have HIH := Lib.hid ih
    have HC := Lib.hid hc
    have HR := Lib.hid hr
    have HT := Lib.hid (And.intro htm hte)
    have HB := Lib.hid (And.intro hr256 (And.intro hrl (And.intro hrlen (And.intro hsg hs2))))
    have HLO := Lib.hid (And.intro hl256 (And.intro hlb hll))
    have HB0 := Lib.hid hb0
    have HH := Lib.hid hrows
    have HD := Lib.hid hd6
    clear ih hc hr htm hte hr256 hrl hrlen hsg hs2 hl256 hlb hll hb0 hrows h hexp hf ht hms hterm hrest hrow hleft hlen hne hd6
    unfold maxLen at hm
    go_enter Tryd.func90, Tryd.ntmps90
    go_wp2
    go_loopw [7] (fun i wr => ∃ k : Nat, k ≤ row ∧ i = .int .i64 k ∧ wr = w) (fun i _ => row - (intOf i).toNat)
    case atStart => exact ⟨0, by omega, rfl, by first | trivial | rfl⟩
    case round =>
      obtain ⟨k, hk, rfl, hw0⟩ := hrel
      subst wr
      by_cases hkr : k < row
      · obtain ⟨t1, t0⟩ := shr_is left k HLO.out.1 false (HLO.out.2.2 k hkr)
        go_wp2
        go_roundw
        case rel => exact ⟨k + 1, by omega, by go_num, by first | trivial | rfl⟩
        case measure => simp [intOf]; omega
      · have hkr2 : k = row := by omega
        subst k
        obtain ⟨t1, t0⟩ := shr_is left row HLO.out.1 true HLO.out.2.1
        have hrw : IntKind.i64.wrap ((row : Int) + 1) = ((row + 1 : Nat) : Int) := by rw [IntKind.wrap_i64]; omega
        have hrw2 := hrw
        rw [wrap_eq] at hrw2
        clear hkr
        go_wp2
        clear t1 t0 hrw hrw2 han han2
        go_loopw [9, 10, 11, 12] (fun s g c _ wr => ∃ j q : Nat, row + 1 ≤ j ∧ j ≤ xss.length ∧ c = .int .i64 j ∧ s = .int .i64 (sumS sg term (below8 rest j)).1 ∧ g = .int .i64 (sumS sg term (below8 rest j)).2 ∧ wr = w.drewN q) (fun _ _ c _ _ => xss.length - (intOf c).toNat)
        case atStart => exact ⟨row + 1, 0, by omega, by omega, by go_num, by rw [HB0.out]; rfl, by rw [HB0.out]; rfl, rfl⟩
        case round =>
          obtain ⟨k, q, hk1, hk, rfl, rfl, rfl, hw⟩ := hrel
          by_cases hlt : k < xss.length
          · have hk8 : k < 8 := by omega
            have hki : (k : Int) < (xss.length : Int) := by omega
            cases hbt : rest.testBit k with
            | false =>
              obtain ⟨t1, t0⟩ := shr_is rest k HB.out.1 false hbt
              have hst := below8_step ⟨k, hk8⟩ ⟨rest, HB.out.1⟩
              simp only [hbt, Bool.false_eq_true, if_false] at hst
              have HST := Lib.hid hst
              have HW := Lib.hid hw
              clear hst hbt hw
              go_wp2
              go_roundw
              case rel => exact ⟨k + 1, q, by omega, by omega, by go_num, by rw [HST.out], by rw [HST.out], HW.out⟩
              case measure => simp [intOf]; omega
            | true =>
              obtain ⟨t1, t0⟩ := shr_is rest k HB.out.1 true hbt
              obtain ⟨hl256, hrest, hlen, hsg, hs2⟩ := HB.out
              have hst := below8_step ⟨k, hk8⟩ ⟨rest, hl256⟩
              simp only [hbt, if_true] at hst
              have hsn := sumS_snoc sg term (below8 rest k) k
              rw [← hst] at hsn
              have hsb := sumS_bound hs2 (below8 rest k) (fun v hv => HT.out.1 v (mem_below8 hv).1 (mem_below8 hv).2)
              have hll := below8_len rest k
              have hgs := sumS_sign hs2 term (below8 rest k)
              have hg1 : b = false → (sumS sg term (below8 rest k)).2 = 1 := fun e => by rw [hsg, e]; exact sumS_one _ _
              have htk := HT.out.1 k hk8 hbt
              have hte : flat xss (6 * row + k) * mates (flat xss) sg (d - 1) (wo8 rest k) = term k := HT.out.2 k
              have hcall := fun (W : World) (hW : IntRows W (.slice A xss.length cap) xss) => HIH.out (d - 1) (by omega) W _ (wo8 rest k) (by have := HD.out; omega) hW (Nat.lt_of_le_of_lt Nat.and_le_left hrest) (by have := wo8_len hl256 hk8 hbt; omega)
              obtain ⟨bb, off, u, rfl, hcell, hints⟩ := HC.out row hlow
              obtain ⟨A2, cap2, rfl, hm2, hc2⟩ := hints
              have hrl := (HR.out row hlow).1
              obtain ⟨b2, off2, rfl, hcell2⟩ := hc2 k (by omega)
              have hx := flat_at xss hlow (show k < xss[row].length by omega) (by omega)
              rw [hx] at hte
              obtain ⟨n2, hn2⟩ : ∃ n2, xss[row].length = n2 := ⟨_, rfl⟩
              obtain ⟨x, hxe⟩ : ∃ x, xss[row][k] = x := ⟨_, rfl⟩
              obtain ⟨E, hE⟩ : ∃ E, mates (flat xss) sg (d - 1) (wo8 rest k) = E := ⟨_, rfl⟩
              obtain ⟨y, hy⟩ : ∃ y, wo8 rest k = y := ⟨_, rfl⟩
              obtain ⟨a, ha⟩ : ∃ a, (sumS sg term (below8 rest k)).1 = a := ⟨_, rfl⟩
              obtain ⟨g, hg⟩ : ∃ g, (sumS sg term (below8 rest k)).2 = g := ⟨_, rfl⟩
              have han : bits .andNot .i64 (rest : Int) (IntKind.i64.wrap (2 ^ k)) = (y : Int) := by
                rw [wrap_eq, pow_wrap (by omega), andNot64 rest _ hl256 (pow7_lt hk8), ← hy]; rfl
              have han2 := han
              rw [wrap_eq] at han2
              rw [hE, hy] at hcall
              rw [hn2] at hrl hcell
              rw [hxe] at hcell2 hte
              rw [hE] at hte
              unfold sumStep at hsn
              rw [ha, hg, ← hte] at hsn
              rw [ha] at hsb ⊢
              rw [hg] at hgs hg1 ⊢
              rw [← hte] at htk
              obtain ⟨p, hp⟩ : ∃ p, x * E = p := ⟨_, rfl⟩
              rw [hp] at hsn htk
              have hab : -144000000000000 ≤ a ∧ a ≤ 144000000000000 := by omega
              have hpw := wrap_big p (by omega) (by omega)
              have hrow0 : (0 : Int) ≤ (row : Int) := by omega
              have hrowi : (row : Int) < (xss.length : Int) := by omega
              have hk0 : (0 : Int) ≤ (k : Int) := by omega
              have hkn : (k : Int) < (n2 : Int) := by omega
              obtain ⟨hpw1, hpw2⟩ := hpw
              have HCALL := Lib.hid hcall
              have hcellw : wr.cell? ⟨bb, off + row, none⟩ = some (.slice (some ⟨b2, off2, none⟩) n2 cap2) := by rw [hw]; exact hcell
              have hcellx : wr.cell? ⟨b2, off2 + k, none⟩ = some (.int .i64 x) := by rw [hw]; exact hcell2
              have hhw : IntRows wr (.slice (some ⟨bb, off, none⟩) xss.length cap) xss := by rw [hw]; exact HH.out.drewN q
              have HHW := Lib.hid hhw
              have HWQ := Lib.hid hw
              clear hw hhw hcell hcell2
              cases b with
              | false =>
                have hg1' := hg1 rfl
                have hsgv : sg = 1 := by rw [hsg]; rfl
                subst hg1'
                obtain ⟨z, hz⟩ : ∃ z, a + p = z := ⟨_, rfl⟩
                have hzw := wrap_big z (by omega) (by omega)
                obtain ⟨hz1, hz2⟩ := hzw
                have hsn2 : sumS sg term (below8 rest (k + 1)) = (z, 1) := by rw [hsn, hsgv, ← hz, Int.one_mul]; rfl
                have HSN := Lib.hid hsn2
                clear hsn hsn2 hab htk hgs hg1 hcall hsb hll hrl hx hn2 hxe hE hy ha hg hte hst hsg hs2 hlen hrest hl256 hc2 hm2 hbt hsgv
                go_wp2
                go_quiet ((go_at_call 90; with_reducible exact Calls.quiet_of (HCALL.out _ (HHW.out.drewN _))))
                clear hpw1 hpw2 han han2 hp
                go_wp2
                clear hz1 hz2
                go_roundw
                case rel =>
                  obtain ⟨q2, hq2⟩ := drews_of (m := nq) HWQ.out
                  exact ⟨k + 1, q2, by omega, by omega, by go_num, by rw [HSN.out], by rw [HSN.out], hq2⟩
                case measure => simp [intOf]; omega
              | true =>
                have hsgv : sg = -1 := by rw [hsg]; rfl
                obtain ⟨m, hm'⟩ : ∃ m, p * g = m := ⟨_, rfl⟩
                obtain ⟨z, hz⟩ : ∃ z, a + m = z := ⟨_, rfl⟩
                obtain ⟨r, hr'⟩ : ∃ r, 0 - g = r := ⟨_, rfl⟩
                have hmb : -18000000000000 ≤ m ∧ m ≤ 18000000000000 := by rw [← hm']; rcases hgs with e | e <;> rw [e] <;> constructor <;> omega
                obtain ⟨hm1, hm2'⟩ := wrap_big m (by omega) (by omega)
                obtain ⟨hz1, hz2⟩ := wrap_big z (by omega) (by omega)
                obtain ⟨hr1', hr2'⟩ := wrap_big r (by omega) (by omega)
                have hsn2 : sumS sg term (below8 rest (k + 1)) = (z, r) := by rw [hsn, hsgv, Int.mul_comm g p, hm', hz, Int.mul_neg, Int.mul_one, ← hr', Int.zero_sub]
                have HSN := Lib.hid hsn2
                clear hsn hsn2 hab htk hgs hg1 hcall hsb hll hrl hx hn2 hxe hE hy ha hg hte hst hsg hs2 hlen hrest hl256 hc2 hm2 hbt hsgv hmb
                go_wp2
                go_quiet ((go_at_call 90; with_reducible exact Calls.quiet_of (HCALL.out _ (HHW.out.drewN _))))
                clear hpw1 hpw2 han han2 hp
                go_wp2
                clear hz1 hz2 hm1 hm2' hr1' hr2'
                go_roundw
                case rel =>
                  obtain ⟨q2, hq2⟩ := drews_of (m := nq) HWQ.out
                  exact ⟨k + 1, q2, by omega, by omega, by go_num, by rw [HSN.out], by rw [HSN.out], hq2⟩
                case measure => simp [intOf]; omega
          · obtain rfl : k = xss.length := by omega
            have HW := Lib.hid hw
            clear hw
            go_wp2
            go_ret
            exact ⟨rfl, q, HW.out⟩

end Go.Proofs.YtfcbhcjgjbcjdacDoor
