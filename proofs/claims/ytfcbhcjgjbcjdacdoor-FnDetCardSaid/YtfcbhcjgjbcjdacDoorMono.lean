/-
  SUMS OF PRODUCTS, laid in order: sums over orders and over pairings as such sums, and what is alike of two of them.
-/
import Derived.Test.YtfcbhcjgjbcjdacDoorMates
namespace Go.Proofs.YtfcbhcjgjbcjdacDoor
set_option linter.unusedVariables false
set_option linter.unusedSimpArgs false
open Go.RowKit

/-- A product of some numbers, with a factor; sums of such. -/
def prodK (F : Nat → Int) : List Nat → Int
  | [] => 1
  | k :: l => F k * prodK F l
def valM (F : Nat → Int) : List (Int × List Nat) → Int
  | [] => 0
  | m :: l => m.1 * prodK F m.2 + valM F l
def altM (sg : Int) (f : Nat → List (Int × List Nat)) : List Nat → List (Int × List Nat)
  | [] => []
  | v :: l => f v ++ (altM sg f l).map fun m => (sg * m.1, m.2)
def monoE (sg : Int) : Nat → Nat → Nat → List (Int × List Nat)
  | 0, _, _ => [(1, [])]
  | d + 1, row, left => altM sg (fun v => (monoE sg d (row + 1) (wo8 left v)).map fun m => (m.1, (6 * row + v) :: m.2)) (elems left)
def monoP (sg : Int) : Nat → Nat → List (Int × List Nat)
  | 0, _ => [(1, [])]
  | 1, _ => []
  | d + 2, left => altM sg (fun v => (monoP sg d (wo8 (wo8 left (lowN left)) v)).map fun m => (m.1, (6 * lowN left + v) :: m.2)) (elems (wo8 left (lowN left)))
theorem valM_append (F : Nat → Int) : ∀ a b, valM F (a ++ b) = valM F a + valM F b
  | [], b => by simp [valM]
  | m :: a, b => by
    show m.1 * prodK F m.2 + valM F (a ++ b) = m.1 * prodK F m.2 + valM F a + valM F b
    rw [valM_append F a b, Int.add_assoc]
theorem valM_scale (F : Nat → Int) (c : Int) : ∀ a, valM F (a.map fun m => (c * m.1, m.2)) = c * valM F a
  | [] => by simp [valM]
  | m :: a => by
    show c * m.1 * prodK F m.2 + valM F (a.map fun m => (c * m.1, m.2)) = c * (m.1 * prodK F m.2 + valM F a)
    rw [valM_scale F c a, Int.mul_add, Int.mul_assoc]
theorem valM_cons (F : Nat → Int) (k : Nat) : ∀ a, valM F (a.map fun m => (m.1, k :: m.2)) = F k * valM F a
  | [] => by simp [valM]
  | m :: a => by
    show m.1 * (F k * prodK F m.2) + valM F (a.map fun m => (m.1, k :: m.2)) = F k * (m.1 * prodK F m.2 + valM F a)
    rw [valM_cons F k a, Int.mul_add, Int.mul_left_comm]
theorem sumS_alt (F : Nat → Int) (sg : Int) (term : Nat → Int) (f : Nat → List (Int × List Nat)) (h : ∀ v, term v = valM F (f v)) (l : List Nat) : (sumS sg term l).1 = valM F (altM sg f l) := by
  have key : ∀ (l : List Nat) (s : Int × Int), (l.foldl (sumStep sg term) s).1 = s.1 + s.2 * valM F (altM sg f l) := by
    intro l
    induction l with
    | nil => intro s; simp [altM, valM]
    | cons v t ih =>
      intro s
      rw [List.foldl_cons, ih]
      show s.1 + s.2 * term v + s.2 * sg * valM F (altM sg f t) = s.1 + s.2 * valM F (f v ++ (altM sg f t).map fun m => (sg * m.1, m.2))
      rw [valM_append, valM_scale, h v, Int.mul_add, Int.mul_assoc, Int.add_assoc]
  have := key l (0, 1)
  simp only [Int.zero_add, Int.one_mul] at this
  exact this
theorem expand_val (F : Nat → Int) (sg : Int) : ∀ d row left, expand F sg d row left = valM F (monoE sg d row left)
  | 0, _, _ => by simp [expand, monoE, valM, prodK]
  | d + 1, row, left => sumS_alt F sg _ _ (fun v => by rw [valM_cons, expand_val F sg d]) _
theorem mates_val (F : Nat → Int) (sg : Int) : ∀ d left, mates F sg d left = valM F (monoP sg d left)
  | 0, _ => by simp [mates, monoP, valM, prodK]
  | 1, _ => by simp [mates, monoP, valM]
  | d + 2, left => sumS_alt F sg _ _ (fun v => by rw [valM_cons, mates_val F sg d]) _

/-- Numbers told by others, with a factor. -/
def subM (sub : Nat → Int × Nat) (m : Int × List Nat) : Int × List Nat := m.2.foldr (fun k r => ((sub k).1 * r.1, (sub k).2 :: r.2)) (m.1, [])
theorem subM_val {F G : Nat → Int} {sub : Nat → Int × Nat} : ∀ (c : Int) (ks : List Nat), (∀ k ∈ ks, F k = (sub k).1 * G (sub k).2) → (subM sub (c, ks)).1 * prodK G (subM sub (c, ks)).2 = c * prodK F ks
  | c, [], _ => rfl
  | c, k :: ks, h => by
    have ih := subM_val c ks fun k' hk' => h k' (by simp [hk'])
    show (sub k).1 * (subM sub (c, ks)).1 * (G (sub k).2 * prodK G (subM sub (c, ks)).2) = c * (F k * prodK F ks)
    rw [h k (by simp), Int.mul_assoc, Int.mul_left_comm (subM sub (c, ks)).1, ih, ← Int.mul_assoc, Int.mul_left_comm c]
theorem valM_sub {F G : Nat → Int} {sub : Nat → Int × Nat} : ∀ L : List (Int × List Nat), (∀ m ∈ L, ∀ k ∈ m.2, F k = (sub k).1 * G (sub k).2) → valM G (L.map (subM sub)) = valM F L
  | [], _ => rfl
  | m :: L, h => by
    show (subM sub m).1 * prodK G (subM sub m).2 + valM G (L.map (subM sub)) = m.1 * prodK F m.2 + valM F L
    rw [valM_sub L fun m' hm' => h m' (by simp [hm']), show subM sub m = subM sub (m.1, m.2) from rfl, subM_val m.1 m.2 (h m (by simp))]

/-- All in order, alike ones together. -/
def insK (k : Nat) : List Nat → List Nat
  | [] => [k]
  | j :: l => if k ≤ j then k :: j :: l else j :: insK k l
def sortK : List Nat → List Nat
  | [] => []
  | k :: l => insK k (sortK l)
theorem insK_val (F : Nat → Int) (k : Nat) : ∀ l, prodK F (insK k l) = F k * prodK F l
  | [] => rfl
  | j :: l => by
    unfold insK
    split
    · rfl
    · show F j * prodK F (insK k l) = F k * (F j * prodK F l)
      rw [insK_val F k l, Int.mul_left_comm]
theorem sortK_val (F : Nat → Int) : ∀ l, prodK F (sortK l) = prodK F l
  | [] => rfl
  | k :: l => by
    show prodK F (insK k (sortK l)) = F k * prodK F l
    rw [insK_val, sortK_val F l]
def encK (l : List Nat) : Nat := l.foldl (fun a k => 64 * a + k) 1
def mergeM : Nat → List (Nat × Int × List Nat) → List (Nat × Int × List Nat) → List (Nat × Int × List Nat)
  | 0, a, b => a ++ b
  | _ + 1, [], b => b
  | _ + 1, a, [] => a
  | f + 1, x :: a, y :: b => if x.1 < y.1 then x :: mergeM f a (y :: b) else if y.1 < x.1 then y :: mergeM f (x :: a) b else if x.2.2 = y.2.2 then (x.1, x.2.1 + y.2.1, x.2.2) :: mergeM f a b else x :: y :: mergeM f a b
def valC (F : Nat → Int) (l : List (Nat × Int × List Nat)) : Int := valM F (l.map (·.2))
theorem valC_cons (F : Nat → Int) (x : Nat × Int × List Nat) (l) : valC F (x :: l) = x.2.1 * prodK F x.2.2 + valC F l := rfl
theorem mergeM_val (F : Nat → Int) : ∀ f a b, valC F (mergeM f a b) = valC F a + valC F b
  | 0, a, b => by unfold mergeM valC; rw [List.map_append, valM_append]
  | _ + 1, [], b => by simp [mergeM, valC, valM]
  | _ + 1, x :: a, [] => by simp [mergeM, valC, valM]
  | f + 1, x :: a, y :: b => by
    unfold mergeM
    split
    · rw [valC_cons, mergeM_val F f, valC_cons, valC_cons]; omega
    · split
      · rw [valC_cons, mergeM_val F f, valC_cons, valC_cons]; omega
      · split
        · rename_i h
          rw [valC_cons, mergeM_val F f, valC_cons, valC_cons]
          show (x.2.1 + y.2.1) * prodK F x.2.2 + (valC F a + valC F b) = _
          rw [Int.add_mul, h]; omega
        · rw [valC_cons, valC_cons, mergeM_val F f, valC_cons, valC_cons]; omega
def sortC : Nat → List (Nat × Int × List Nat) → List (Nat × Int × List Nat)
  | 0, l => l
  | f + 1, l => if l.length ≤ 1 then l else mergeM l.length (sortC f (l.take (l.length / 2))) (sortC f (l.drop (l.length / 2)))
theorem valC_append (F : Nat → Int) (a b) : valC F (a ++ b) = valC F a + valC F b := by unfold valC; rw [List.map_append, valM_append]
theorem sortC_val (F : Nat → Int) : ∀ f l, valC F (sortC f l) = valC F l
  | 0, l => rfl
  | f + 1, l => by
    unfold sortC
    split
    · rfl
    · rw [mergeM_val, sortC_val F f, sortC_val F f, ← valC_append, List.take_append_drop]
def codeM (m : Int × List Nat) : Nat × Int × List Nat := (encK (sortK m.2), m.1, sortK m.2)
def normM (L : List (Int × List Nat)) : List (Int × List Nat) := ((sortC 12 (L.map codeM)).map (·.2)).filter fun m => !(m.1 == 0)
theorem valM_filter (F : Nat → Int) : ∀ L : List (Int × List Nat), valM F (L.filter fun m => !(m.1 == 0)) = valM F L
  | [] => rfl
  | m :: L => by
    rw [List.filter_cons]
    split
    · show m.1 * prodK F m.2 + valM F (L.filter fun m => !(m.1 == 0)) = _; rw [valM_filter F L]; rfl
    · rename_i h
      have : m.1 = 0 := by simpa using h
      rw [valM_filter F L]
      show _ = m.1 * prodK F m.2 + valM F L
      rw [this, Int.zero_mul, Int.zero_add]
theorem normM_val (F : Nat → Int) (L) : valM F (normM L) = valM F L := by
  unfold normM
  rw [valM_filter, show valM F ((sortC 12 (L.map codeM)).map (·.2)) = valC F (sortC 12 (L.map codeM)) from rfl, sortC_val]
  induction L with
  | nil => rfl
  | cons m L ih =>
    rw [List.map_cons, valC_cons, ih]
    show m.1 * prodK F (sortK m.2) + valM F L = _
    rw [sortK_val]; rfl
/-- Products of sums. -/
def mulM1 (m : Int × List Nat) (B : List (Int × List Nat)) : List (Int × List Nat) := B.map fun b => (m.1 * b.1, m.2 ++ b.2)
def mulM : List (Int × List Nat) → List (Int × List Nat) → List (Int × List Nat)
  | [], _ => []
  | m :: A, B => mulM1 m B ++ mulM A B
theorem prodK_append (F : Nat → Int) : ∀ a b, prodK F (a ++ b) = prodK F a * prodK F b
  | [], b => by simp [prodK]
  | k :: a, b => by
    show F k * prodK F (a ++ b) = F k * prodK F a * prodK F b
    rw [prodK_append F a b, Int.mul_assoc]
theorem mulM1_val (F : Nat → Int) (m) : ∀ B, valM F (mulM1 m B) = m.1 * prodK F m.2 * valM F B
  | [] => by simp [mulM1, valM]
  | b :: B => by
    show m.1 * b.1 * prodK F (m.2 ++ b.2) + valM F (mulM1 m B) = m.1 * prodK F m.2 * (b.1 * prodK F b.2 + valM F B)
    rw [mulM1_val F m B, prodK_append, Int.mul_add, Int.mul_assoc m.1, Int.mul_assoc m.1, Int.mul_left_comm b.1]
    congr 1
    rw [Int.mul_assoc]
theorem mulM_val (F : Nat → Int) : ∀ A B, valM F (mulM A B) = valM F A * valM F B
  | [], B => by simp [mulM, valM]
  | m :: A, B => by
    show valM F (mulM1 m B ++ mulM A B) = (m.1 * prodK F m.2 + valM F A) * valM F B
    rw [valM_append, mulM1_val, mulM_val F A B, Int.add_mul]

/-- Turned, two rows exchanged, skew. -/
def subT (k : Nat) : Int × Nat := (1, 6 * (k % 6) + k / 6)
def sw01 (i : Nat) : Nat := if i < 2 then 1 - i else i
def subR (k : Nat) : Int × Nat := (1, 6 * sw01 (k / 6) + k % 6)
def subW (k : Nat) : Int × Nat := (1, 6 * sw01 (k / 6) + sw01 (k % 6))
def subS (k : Nat) : Int × Nat := if k / 6 < k % 6 then (1, k) else if k / 6 = k % 6 then (0, k) else (-1, 6 * (k % 6) + k / 6)
def inK (n : Nat) (L : List (Int × List Nat)) : Bool := L.all fun m => m.2.all fun k => decide (k / 6 < n ∧ k % 6 < n)

theorem keysE : ∀ n : Fin 7, inK n.val (monoE 1 n.val 0 (2 ^ n.val - 1)) = true ∧ inK n.val (monoE (-1) n.val 0 (2 ^ n.val - 1)) = true := by decide +kernel
theorem keysP : ∀ n : Fin 7, inK n.val (monoP 1 n.val (2 ^ n.val - 1)) = true ∧ inK n.val (monoP (-1) n.val (2 ^ n.val - 1)) = true := by decide +kernel
theorem turnE : ∀ n : Fin 7, normM ((monoE 1 n.val 0 (2 ^ n.val - 1)).map (subM subT)) = normM (monoE 1 n.val 0 (2 ^ n.val - 1)) ∧ normM ((monoE (-1) n.val 0 (2 ^ n.val - 1)).map (subM subT)) = normM (monoE (-1) n.val 0 (2 ^ n.val - 1)) := by decide +kernel
theorem rowsE : ∀ n : Fin 7, 2 ≤ n.val → normM ((monoE 1 n.val 0 (2 ^ n.val - 1)).map (subM subR)) = normM (monoE 1 n.val 0 (2 ^ n.val - 1)) ∧ normM ((monoE (-1) n.val 0 (2 ^ n.val - 1)).map (subM subR)) = normM ((monoE (-1) n.val 0 (2 ^ n.val - 1)).map fun m => (-1 * m.1, m.2)) := by decide +kernel
theorem movedP : ∀ n : Fin 7, 2 ≤ n.val → normM (((monoP (-1) n.val (2 ^ n.val - 1)).map (subM subW)).map (subM subS)) = normM (((monoP (-1) n.val (2 ^ n.val - 1)).map (subM subS)).map fun m => (-1 * m.1, m.2)) := by decide +kernel
theorem squareP : ∀ n : Fin 7, 1 ≤ n.val → normM (mulM ((monoP (-1) n.val (2 ^ n.val - 1)).map (subM subS)) ((monoP (-1) n.val (2 ^ n.val - 1)).map (subM subS))) = normM ((monoE (-1) n.val 0 (2 ^ n.val - 1)).map (subM subS)) := by decide +kernel

theorem inK_keys {n : Nat} {L : List (Int × List Nat)} (h : inK n L = true) : ∀ m ∈ L, ∀ k ∈ m.2, k / 6 < n ∧ k % 6 < n := fun m hm k hk => by
  unfold inK at h
  rw [List.all_eq_true] at h
  have := h m hm
  rw [List.all_eq_true] at this
  exact of_decide_eq_true (this k hk)
theorem valM_eq {F : Nat → Int} {A B : List (Int × List Nat)} (h : normM A = normM B) : valM F A = valM F B := by rw [← normM_val F A, h, normM_val]
theorem valM_neg (F : Nat → Int) (A : List (Int × List Nat)) : valM F (A.map fun m => (-1 * m.1, m.2)) = -valM F A := by rw [valM_scale]; omega
theorem expand_turned {F G : Nat → Int} {n : Nat} (hn : n < 7) {sg : Int} (hsg : sg = 1 ∨ sg = -1) (h : ∀ i j, i < n → j < n → F (6 * i + j) = G (6 * j + i)) : expand F sg n 0 (2 ^ n - 1) = expand G sg n 0 (2 ^ n - 1) := by
  have hk : ∀ k, k / 6 < n → k % 6 < n → F k = (subT k).1 * G (subT k).2 := fun k h1 h2 => by
    have := h (k / 6) (k % 6) h1 h2
    rw [show 6 * (k / 6) + k % 6 = k by omega] at this
    show F k = 1 * G (6 * (k % 6) + k / 6)
    rw [Int.one_mul]; exact this
  rw [expand_val, expand_val]
  rcases hsg with rfl | rfl
  · rw [← valM_sub (F := F) (G := G) (sub := subT) _ (fun m hm k hk' => hk k (inK_keys (keysE ⟨n, hn⟩).1 m hm k hk').1 (inK_keys (keysE ⟨n, hn⟩).1 m hm k hk').2)]
    exact valM_eq (turnE ⟨n, hn⟩).1
  · rw [← valM_sub (F := F) (G := G) (sub := subT) _ (fun m hm k hk' => hk k (inK_keys (keysE ⟨n, hn⟩).2 m hm k hk').1 (inK_keys (keysE ⟨n, hn⟩).2 m hm k hk').2)]
    exact valM_eq (turnE ⟨n, hn⟩).2
theorem expand_rows {F G : Nat → Int} {n : Nat} (hn : n < 7) (h2 : 2 ≤ n) (h : ∀ i j, i < n → j < n → F (6 * i + j) = G (6 * sw01 i + j)) : expand F 1 n 0 (2 ^ n - 1) = expand G 1 n 0 (2 ^ n - 1) ∧ expand F (-1) n 0 (2 ^ n - 1) = -expand G (-1) n 0 (2 ^ n - 1) := by
  have hk : ∀ k, k / 6 < n → k % 6 < n → F k = (subR k).1 * G (subR k).2 := fun k h1 h2 => by
    have := h (k / 6) (k % 6) h1 h2
    rw [show 6 * (k / 6) + k % 6 = k by omega] at this
    show F k = 1 * G (6 * sw01 (k / 6) + k % 6)
    rw [Int.one_mul]; exact this
  rw [expand_val, expand_val, expand_val, expand_val]
  constructor
  · rw [← valM_sub (F := F) (G := G) (sub := subR) _ (fun m hm k hk' => hk k (inK_keys (keysE ⟨n, hn⟩).1 m hm k hk').1 (inK_keys (keysE ⟨n, hn⟩).1 m hm k hk').2)]
    exact valM_eq (rowsE ⟨n, hn⟩ h2).1
  · rw [← valM_sub (F := F) (G := G) (sub := subR) _ (fun m hm k hk' => hk k (inK_keys (keysE ⟨n, hn⟩).2 m hm k hk').1 (inK_keys (keysE ⟨n, hn⟩).2 m hm k hk').2), ← valM_neg]
    exact valM_eq (rowsE ⟨n, hn⟩ h2).2
theorem skew_sub {G : Nat → Int} {n : Nat} (hs : ∀ i j, i < n → j < n → G (6 * i + j) = -G (6 * j + i)) : ∀ k, k / 6 < n → k % 6 < n → G k = (subS k).1 * G (subS k).2 := fun k h1 h2 => by
  have := hs (k / 6) (k % 6) h1 h2
  rw [show 6 * (k / 6) + k % 6 = k by omega] at this
  unfold subS
  split
  · show G k = 1 * G k; omega
  · split
    · rename_i e
      rw [e, show 6 * (k % 6) + k % 6 = k by omega] at this
      show G k = 0 * G k; omega
    · show G k = -1 * G (6 * (k % 6) + k / 6); omega
theorem mates_square {G : Nat → Int} {n : Nat} (hn : n < 7) (h1 : 1 ≤ n) (hs : ∀ i j, i < n → j < n → G (6 * i + j) = -G (6 * j + i)) : mates G (-1) n (2 ^ n - 1) * mates G (-1) n (2 ^ n - 1) = expand G (-1) n 0 (2 ^ n - 1) := by
  have hk := skew_sub hs
  have e1 := valM_sub (F := G) (G := G) (sub := subS) (monoP (-1) n (2 ^ n - 1)) (fun m hm k hk' => hk k (inK_keys (keysP ⟨n, hn⟩).2 m hm k hk').1 (inK_keys (keysP ⟨n, hn⟩).2 m hm k hk').2)
  have e2 := valM_sub (F := G) (G := G) (sub := subS) (monoE (-1) n 0 (2 ^ n - 1)) (fun m hm k hk' => hk k (inK_keys (keysE ⟨n, hn⟩).2 m hm k hk').1 (inK_keys (keysE ⟨n, hn⟩).2 m hm k hk').2)
  rw [mates_val, expand_val, ← e1, ← e2, ← mulM_val]
  exact valM_eq (squareP ⟨n, hn⟩ h1)
theorem sw01_lt {n i : Nat} (h2 : 2 ≤ n) (hi : i < n) : sw01 i < n := by unfold sw01; split <;> omega
theorem subW_in {n : Nat} (h2 : 2 ≤ n) (h6 : n < 7) {k : Nat} (ha : k / 6 < n) (hb : k % 6 < n) : (subW k).2 / 6 < n ∧ (subW k).2 % 6 < n := by
  have h1 := sw01_lt h2 ha
  have h3 := sw01_lt h2 hb
  show (6 * sw01 (k / 6) + sw01 (k % 6)) / 6 < n ∧ (6 * sw01 (k / 6) + sw01 (k % 6)) % 6 < n
  omega
theorem subM_keys {sub : Nat → Int × Nat} : ∀ (c : Int) (ks : List Nat), (subM sub (c, ks)).2 = ks.map fun k => (sub k).2
  | _, [] => rfl
  | c, k :: ks => by
    show (sub k).2 :: (subM sub (c, ks)).2 = _
    rw [subM_keys c ks]; rfl
theorem mates_moved {F G : Nat → Int} {n : Nat} (hn : n < 7) (h2 : 2 ≤ n) (h : ∀ i j, i < n → j < n → F (6 * i + j) = G (6 * sw01 i + sw01 j)) (hs : ∀ i j, i < n → j < n → G (6 * i + j) = -G (6 * j + i)) :
    mates F (-1) n (2 ^ n - 1) = -mates G (-1) n (2 ^ n - 1) := by
  have hk := skew_sub hs
  have hw : ∀ k, k / 6 < n → k % 6 < n → F k = (subW k).1 * G (subW k).2 := fun k h1 h2 => by
    have := h (k / 6) (k % 6) h1 h2
    rw [show 6 * (k / 6) + k % 6 = k by omega] at this
    show F k = 1 * G (6 * sw01 (k / 6) + sw01 (k % 6))
    rw [Int.one_mul]; exact this
  have hin := inK_keys (keysP ⟨n, hn⟩).2
  have e1 := valM_sub (F := F) (G := G) (sub := subW) (monoP (-1) n (2 ^ n - 1)) (fun m hm k hk' => hw k (hin m hm k hk').1 (hin m hm k hk').2)
  have e2 := valM_sub (F := G) (G := G) (sub := subS) (monoP (-1) n (2 ^ n - 1)) (fun m hm k hk' => hk k (hin m hm k hk').1 (hin m hm k hk').2)
  have e3 := valM_sub (F := G) (G := G) (sub := subS) ((monoP (-1) n (2 ^ n - 1)).map (subM subW)) (fun m hm k hk' => by
    obtain ⟨m0, hm0, rfl⟩ := List.mem_map.1 hm
    rw [show subM subW m0 = subM subW (m0.1, m0.2) from rfl, subM_keys] at hk'
    obtain ⟨k0, hk0, rfl⟩ := List.mem_map.1 hk'
    have := subW_in h2 hn (hin m0 hm0 k0 hk0).1 (hin m0 hm0 k0 hk0).2
    exact hk _ this.1 this.2)
  rw [mates_val, mates_val, ← e1, ← e2, ← e3, ← valM_neg]
  exact valM_eq (movedP ⟨n, hn⟩ h2)
theorem sumS_scale (sg c : Int) {term term' : Nat → Int} (l : List Nat) (h : ∀ v ∈ l, term v = c * term' v) : (sumS sg term l).1 = c * (sumS sg term' l).1 := by
  have key : ∀ (l : List Nat) (s s' : Int × Int), s.1 = c * s'.1 → s.2 = s'.2 → (∀ v ∈ l, term v = c * term' v) → (l.foldl (sumStep sg term) s).1 = c * (l.foldl (sumStep sg term') s').1 := by
    intro l
    induction l with
    | nil => exact fun s s' h _ _ => h
    | cons v t ih =>
      intro s s' h1 h2 hl
      rw [List.foldl_cons, List.foldl_cons]
      refine ih _ _ ?_ ?_ (fun u hu => hl u (by simp [hu]))
      · show s.1 + s.2 * term v = c * (s'.1 + s'.2 * term' v)
        rw [h1, h2, hl v (by simp), Int.mul_add, Int.mul_left_comm]
      · show s.2 * sg = s'.2 * sg
        rw [h2]
  exact key l _ _ (by simp) rfl h
/-- Twice each number is twice each edge. -/
theorem mates_twice {F G : Nat → Int} (h : ∀ k, F k = 2 * G k) (sg : Int) : ∀ (d left : Nat), mates F sg d left = ((2 ^ (d / 2) : Nat) : Int) * mates G sg d left
  | 0, _ => by simp [mates]
  | 1, _ => by simp [mates]
  | d + 2, left => by
    show (sumS sg (fun v => F (6 * lowN left + v) * mates F sg d (wo8 (wo8 left (lowN left)) v)) (elems (wo8 left (lowN left)))).1 = _ * (sumS sg (fun v => G (6 * lowN left + v) * mates G sg d (wo8 (wo8 left (lowN left)) v)) (elems (wo8 left (lowN left)))).1
    have e : ((2 ^ ((d + 2) / 2) : Nat) : Int) = 2 * ((2 ^ (d / 2) : Nat) : Int) := by
      rw [show (d + 2) / 2 = d / 2 + 1 by omega, Nat.pow_succ]; omega
    rw [e]
    refine sumS_scale sg _ _ fun v _ => ?_
    show F _ * mates F sg d _ = 2 * ((2 ^ (d / 2) : Nat) : Int) * (G _ * mates G sg d _)
    rw [h, mates_twice h sg d, Int.mul_assoc, Int.mul_assoc, Int.mul_left_comm (G _)]

end Go.Proofs.YtfcbhcjgjbcjdacDoor
