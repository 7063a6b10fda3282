/-
  Plain mathematics of layer 6: a number of sixteen bytes and another one; the stream of a key and a beginning; what is hidden. Nothing of the program here.
-/
import Derived.Test.YtmjeojbdieaakaaDoorPb
import Derived.Test.YtmjeojbdieaakaaDoorAesMath
namespace Go.Proofs.YtmjeojbdieaakaaDoor
set_option linter.unusedVariables false

theorem num_be_mod : ∀ n x, num (be n x) = x % 256 ^ n := fun n x => by
  have h : be n x = be n (x % 256 ^ n) := by
    induction n generalizing x with
    | zero => rfl
    | succ n ih =>
      unfold be
      rw [ih (x / 256), ih (x % 256 ^ (n + 1) / 256)]
      have e1 : x % 256 ^ (n + 1) / 256 % 256 ^ n = x / 256 % 256 ^ n := by
        rw [Nat.pow_succ', Nat.mod_mul_right_div_self, Nat.mod_mod]
      have e2 : UInt8.ofNat (x % 256 ^ (n + 1)) = UInt8.ofNat x := by
        apply UInt8.toNat_inj.1
        rw [UInt8.toNat_ofNat', UInt8.toNat_ofNat', Nat.pow_succ']
        exact Nat.mod_mul_right_mod x 256 (256 ^ n)
      rw [e1, e2]
  rw [h]
  exact num_be n _ (Nat.mod_lt _ (Nat.pow_pos (by omega)))
theorem be_modp (n x : Nat) : be n (x % 256 ^ n) = be n x := by
  have h1 := be_num (be n x)
  rw [be_length, num_be_mod] at h1
  exact h1

/-- A number of sixteen bytes, and n. -/
@[irreducible] def cnt (l : List UInt8) (n : Nat) : List UInt8 := be 16 (num l + n)
theorem cnt_eq (l : List UInt8) (n : Nat) : cnt l n = be 16 (num l + n) := by unfold cnt; rfl
theorem cnt_length (l : List UInt8) (n : Nat) : (cnt l n).length = 16 := by rw [cnt_eq, be_length]
theorem cnt_add (l : List UInt8) (a b : Nat) : cnt (cnt l a) b = cnt l (a + b) := by
  rw [cnt_eq, cnt_eq, cnt_eq, num_be_mod, ← be_modp, Nat.mod_add_mod, be_modp, Nat.add_assoc]
theorem cnt_zero {l : List UInt8} (h : l.length = 16) : cnt l 0 = l := by
  have := be_num l
  rw [h] at this
  rw [cnt_eq, Nat.add_zero, this]

/-- The stream's byte at i. -/
@[irreducible] def ksAt (w from_ : List UInt8) (i : Nat) : UInt8 := (aesBlock w (cnt from_ (i / 16))).getD (i % 16) 0
theorem ksAt_eq (w from_ : List UInt8) (i : Nat) : ksAt w from_ i = (aesBlock w (cnt from_ (i / 16))).getD (i % 16) 0 := by unfold ksAt; rfl
theorem ksAt_behind (w from_ : List UInt8) (m i : Nat) : ksAt w (cnt from_ m) i = ksAt w from_ (16 * m + i) := by
  rw [ksAt_eq, ksAt_eq, cnt_add, Nat.mul_add_div (by omega), Nat.mul_add_mod]
/-- A text, hidden. -/
@[irreducible] def hide (w from_ text : List UInt8) : List UInt8 := tab text.length (fun i => text.getD i 0 ^^^ ksAt w from_ i)
theorem hide_eq (w from_ text : List UInt8) : hide w from_ text = tab text.length (fun i => text.getD i 0 ^^^ ksAt w from_ i) := by unfold hide; rfl
theorem hide_length (w from_ text : List UInt8) : (hide w from_ text).length = text.length := by rw [hide_eq, tab_length]
theorem hide_getD (w from_ text : List UInt8) {i : Nat} (h : i < text.length) : (hide w from_ text).getD i 0 = text.getD i 0 ^^^ ksAt w from_ i := by rw [hide_eq, tab_get _ h]
theorem list_ext_getD {a b : List UInt8} (hl : a.length = b.length) (h : ∀ i, i < a.length → a.getD i 0 = b.getD i 0) : a = b := by
  rw [tab_ext (n := a.length) rfl, tab_ext (l := b) (n := a.length) hl.symm]
  exact tab_congr h
theorem hide_hide (w from_ text : List UInt8) : hide w from_ (hide w from_ text) = text := by
  refine list_ext_getD (by rw [hide_length, hide_length]) fun i hi => ?_
  rw [hide_length, hide_length] at hi
  rw [hide_getD _ _ _ (by rw [hide_length]; exact hi), hide_getD _ _ _ hi, UInt8.xor_assoc, UInt8.xor_self, UInt8.xor_zero]
theorem getD_take {l : List UInt8} {n i : Nat} (h : i < n) : (l.take n).getD i 0 = l.getD i 0 := by
  rw [List.getD_eq_getElem?_getD, List.getD_eq_getElem?_getD, List.getElem?_take, if_pos h]
theorem getD_drop (l : List UInt8) (n i : Nat) : (l.drop n).getD i 0 = l.getD (n + i) 0 := by
  rw [List.getD_eq_getElem?_getD, List.getD_eq_getElem?_getD, List.getElem?_drop]
theorem hide_take (w from_ text : List UInt8) (n : Nat) : hide w from_ (text.take n) = (hide w from_ text).take n := by
  refine list_ext_getD (by rw [hide_length, List.length_take, List.length_take, hide_length]) fun i hi => ?_
  rw [hide_length, List.length_take] at hi
  rw [hide_getD _ _ _ (by rw [List.length_take]; exact hi), getD_take (by omega), getD_take (by omega), hide_getD _ _ _ (by omega)]
theorem hide_drop (w from_ text : List UInt8) (m : Nat) : hide w (cnt from_ m) (text.drop (16 * m)) = (hide w from_ text).drop (16 * m) := by
  refine list_ext_getD (by rw [hide_length, List.length_drop, List.length_drop, hide_length]) fun i hi => ?_
  rw [hide_length, List.length_drop] at hi
  rw [hide_getD _ _ _ (by rw [List.length_drop]; exact hi), getD_drop, getD_drop, hide_getD _ _ _ (by omega), ksAt_behind]
theorem hide_step (w from_ text : List UInt8) (k : Nat) (h : k < text.length) : hide w from_ (text.take (k + 1)) = hide w from_ (text.take k) ++ [text.getD k 0 ^^^ ksAt w from_ k] := by
  rw [hide_take, hide_take, List.take_add_one, List.getElem?_eq_getElem (by rw [hide_length]; exact h)]
  have := hide_getD w from_ text h
  rw [List.getD_eq_getElem?_getD, List.getElem?_eq_getElem (by rw [hide_length]; exact h)] at this
  simp only [Option.getD_some] at this
  rw [this]; rfl
/-- What is turned of a text is turned of what hides it. -/
theorem hide_xor (w from_ a b : List UInt8) (h : b.length = a.length) {i : Nat} (hi : i < a.length) :
    (hide w from_ a).getD i 0 ^^^ b.getD i 0 = (hide w from_ (tab a.length (fun j => a.getD j 0 ^^^ b.getD j 0))).getD i 0 := by
  rw [hide_getD _ _ _ hi, hide_getD _ _ _ (by rw [tab_length]; exact hi), tab_get _ hi, UInt8.xor_assoc, UInt8.xor_assoc, UInt8.xor_comm (ksAt w from_ i)]

/-! ### counting byte by byte, the lowest first -/
theorem num_append (a : List UInt8) : ∀ b : List UInt8, num (a ++ b) = num a * 256 ^ b.length + num b := fun b => by
  refine snoc_ind (P := fun b => num (a ++ b) = num a * 256 ^ b.length + num b) (by simp [num]) (fun l x ih => ?_) b
  show num (a ++ (l ++ [x])) = num a * 256 ^ (l ++ [x]).length + num (l ++ [x])
  rw [← List.append_assoc, num_snoc, num_snoc, ih, List.length_append, List.length_singleton, Nat.pow_succ, Nat.add_mul, Nat.mul_assoc, Nat.add_assoc]
theorem be_consp : ∀ (k x : Nat), be (k + 1) x = UInt8.ofNat (x / 256 ^ k) :: be k x
  | 0, x => by simp [be]
  | k + 1, x => by
    rw [be, be_consp k (x / 256), be, Nat.div_div_eq_div_mul, ← Nat.pow_succ']
    rfl
/-- What is carried over behind the lowest k bytes. -/
def cntC (l : List UInt8) (n k : Nat) : Nat := (num (l.drop (16 - k)) + n % 256 ^ k) / 256 ^ k
theorem cntC_zero {l : List UInt8} (h : l.length = 16) (n : Nat) : cntC l n 0 = 0 := by
  unfold cntC
  rw [List.drop_eq_nil_of_le (by omega)]
  simp [num, Nat.mod_one]
theorem num_take {l : List UInt8} {k : Nat} {b : UInt8} (hk : l[k]? = some b) : num (l.take (k + 1)) = num (l.take k) * 256 + b.toNat := by
  rw [take_step l k b hk, num_snoc]
theorem num_drop {l : List UInt8} {k : Nat} {b : UInt8} (hk : l[k]? = some b) : num (l.drop k) = b.toNat * 256 ^ (l.drop (k + 1)).length + num (l.drop (k + 1)) := by
  obtain ⟨h1, h2⟩ := List.getElem?_eq_some_iff.1 hk
  rw [List.drop_eq_getElem_cons h1, h2]
  have := num_append [b] (l.drop (k + 1))
  simpa [num] using this
theorem cnt_sum {l : List UInt8} (h : l.length = 16) (n : Nat) {k : Nat} (hk : k < 16) {b : UInt8} (hb : l[15 - k]? = some b) :
    UInt8.ofNat ((num l + n) / 256 ^ k) = UInt8.ofNat (b.toNat + n / 256 ^ k % 256 + cntC l n k) ∧ cntC l n (k + 1) = (b.toNat + n / 256 ^ k % 256 + cntC l n k) / 256 := by
  have hp : 0 < 256 ^ k := Nat.pow_pos (by omega)
  have hdl : (l.drop (16 - k)).length = k := by rw [List.length_drop]; omega
  have e0 := num_append (l.take (16 - k)) (l.drop (16 - k))
  rw [List.take_append_drop, hdl] at e0
  have e1 := num_take hb
  rw [show 15 - k + 1 = 16 - k by omega] at e1
  have e2 := num_drop hb
  rw [show 15 - k + 1 = 16 - k by omega, hdl] at e2
  have en := Nat.div_add_mod n (256 ^ k)
  have e3 : (num l + n) / 256 ^ k = num (l.take (16 - k)) + n / 256 ^ k + cntC l n k := by
    have : num l + n = (num (l.drop (16 - k)) + n % 256 ^ k) + 256 ^ k * (num (l.take (16 - k)) + n / 256 ^ k) := by
      rw [e0, Nat.mul_add, Nat.mul_comm (256 ^ k) (num (l.take (16 - k)))]
      omega
    rw [this, Nat.add_mul_div_left _ _ hp]
    unfold cntC
    omega
  constructor
  · apply UInt8.toNat_inj.1
    rw [ofNat_toNat, ofNat_toNat, e3, e1]
    omega
  · have e4 : n % 256 ^ (k + 1) = n % 256 ^ k + 256 ^ k * (n / 256 ^ k % 256) := by rw [Nat.pow_succ, Nat.mod_mul]
    have e5 : cntC l n (k + 1) = (num (l.drop (16 - k)) + n % 256 ^ k + 256 ^ k * (b.toNat + n / 256 ^ k % 256)) / 256 ^ k / 256 := by
      unfold cntC
      rw [show 16 - (k + 1) = 15 - k by omega, e2, e4, Nat.pow_succ, ← Nat.div_div_eq_div_mul, Nat.mul_add, Nat.mul_comm (b.toNat)]
      congr 2
      omega
    rw [e5, Nat.add_mul_div_left _ _ hp]
    unfold cntC
    congr 1
    omega
/-- The lowest k bytes counted. -/
def cntP (l : List UInt8) (n k : Nat) : List UInt8 := l.take (16 - k) ++ be k (num l + n)
theorem cntP_zero {l : List UInt8} (h : l.length = 16) (n : Nat) : cntP l n 0 = l := by
  unfold cntP be
  rw [List.take_of_length_le (by omega), List.append_nil]
theorem cntP_end (l : List UInt8) (n : Nat) : cntP l n 16 = cnt l n := by unfold cntP; rw [cnt_eq]; simp
theorem cntP_length {l : List UInt8} (h : l.length = 16) (n : Nat) {k : Nat} (hk : k ≤ 16) : (cntP l n k).length = 16 := by
  unfold cntP; rw [List.length_append, List.length_take, be_length]; omega
theorem cntP_step {l : List UInt8} (h : l.length = 16) (n : Nat) {k : Nat} (hk : k < 16) {b : UInt8} (hb : l[15 - k]? = some b) :
    (cntP l n k).set (15 - k) (UInt8.ofNat (b.toNat + n / 256 ^ k % 256 + cntC l n k)) = cntP l n (k + 1) := by
  have ht : l.take (16 - k) = l.take (15 - k) ++ [b] := by
    rw [← take_step l (15 - k) b hb, show 15 - k + 1 = 16 - k by omega]
  have hl : (l.take (15 - k)).length = 15 - k := by rw [List.length_take]; omega
  unfold cntP
  rw [ht, List.append_assoc, List.set_append_right _ _ (by omega), hl, Nat.sub_self, be_consp, (cnt_sum h n hk hb).1, show 16 - (k + 1) = 15 - k by omega]
  rfl
theorem cntP_get {l : List UInt8} (h : l.length = 16) (n : Nat) {k : Nat} (hk : k < 16) : (cntP l n k)[15 - k]? = l[15 - k]? := by
  unfold cntP
  rw [List.getElem?_append_left (by rw [List.length_take]; omega), List.getElem?_take, if_pos (by omega)]
end Go.Proofs.YtmjeojbdieaakaaDoor
