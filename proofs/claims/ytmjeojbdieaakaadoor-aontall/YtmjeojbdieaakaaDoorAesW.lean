/-
  Plain mathematics of layer 5, going on: columns as words of 32 bits. Nothing of the program here.
-/
import Derived.Test.YtmjeojbdieaakaaDoorAesMath
import Derived.Test.YtmjeojbdieaakaaDoorPb
namespace Go.Proofs.YtmjeojbdieaakaaDoor
set_option linter.unusedVariables false

/-! ### four bytes as one number -/
def pk (a b c d : Nat) : Nat := ((a * 256 + b) * 256 + c) * 256 + d
theorem join_xor (x u y v : Nat) (hy : y < 256) (hv : v < 256) : (x * 256 + y) ^^^ (u * 256 + v) = (x ^^^ u) * 256 + (y ^^^ v) := by
  have h1 : y ^^^ v < 2 ^ 8 := Nat.xor_lt_two_pow hy hv
  apply Nat.eq_of_testBit_eq
  intro j
  rw [Nat.testBit_xor, Nat.mul_comm x, Nat.mul_comm u, Nat.mul_comm (x ^^^ u)]
  rw [show (256 : Nat) = 2 ^ 8 by decide, Nat.testBit_two_pow_mul_add _ (show y < 2 ^ 8 from hy), Nat.testBit_two_pow_mul_add _ (show v < 2 ^ 8 from hv), Nat.testBit_two_pow_mul_add _ h1]
  split
  · rw [Nat.testBit_xor]
  · rw [Nat.testBit_xor]
theorem join_and (x u y v : Nat) (hy : y < 256) (hv : v < 256) : (x * 256 + y) &&& (u * 256 + v) = (x &&& u) * 256 + (y &&& v) := by
  have h1 : y &&& v < 2 ^ 8 := Nat.lt_of_le_of_lt Nat.and_le_left hy
  apply Nat.eq_of_testBit_eq
  intro j
  rw [Nat.testBit_and, Nat.mul_comm x, Nat.mul_comm u, Nat.mul_comm (x &&& u)]
  rw [show (256 : Nat) = 2 ^ 8 by decide, Nat.testBit_two_pow_mul_add _ (show y < 2 ^ 8 from hy), Nat.testBit_two_pow_mul_add _ (show v < 2 ^ 8 from hv), Nat.testBit_two_pow_mul_add _ h1]
  split
  · rw [Nat.testBit_and]
  · rw [Nat.testBit_and]
theorem pk_xor {a b c d e f g h : Nat} (hb : b < 256) (hc : c < 256) (hd : d < 256) (hf : f < 256) (hg : g < 256) (hh : h < 256) : pk a b c d ^^^ pk e f g h = pk (a ^^^ e) (b ^^^ f) (c ^^^ g) (d ^^^ h) := by
  unfold pk
  rw [join_xor _ _ _ _ hd hh, join_xor _ _ _ _ hc hg, join_xor _ _ _ _ hb hf]
theorem pk_and {a b c d e f g h : Nat} (hb : b < 256) (hc : c < 256) (hd : d < 256) (hf : f < 256) (hg : g < 256) (hh : h < 256) : pk a b c d &&& pk e f g h = pk (a &&& e) (b &&& f) (c &&& g) (d &&& h) := by
  unfold pk
  rw [join_and _ _ _ _ hd hh, join_and _ _ _ _ hc hg, join_and _ _ _ _ hb hf]
theorem pk_or (a b c d : Nat) (hd : d < 256) : pk a b c 0 ||| d = pk a b c d := by
  unfold pk
  apply Nat.eq_of_testBit_eq
  intro j
  rw [Nat.testBit_or, Nat.mul_comm _ 256, show (256 : Nat) = 2 ^ 8 by decide]
  rw [Nat.testBit_two_pow_mul_add _ (show 0 < 2 ^ 8 by decide), Nat.testBit_two_pow_mul_add _ (show d < 2 ^ 8 from hd)]
  split
  · simp
  · have : d.testBit j = false := Nat.testBit_lt_two_pow (Nat.lt_of_lt_of_le (show d < 2 ^ 8 from hd) (Nat.pow_le_pow_right (by decide) (by omega)))
    rw [this]; simp

/-- The word of four bytes. -/
@[irreducible] def w4 (a b c d : UInt8) : W32 := wd [a, b, c, d]
theorem w4_eq (a b c d : UInt8) : w4 a b c d = wd [a, b, c, d] := by unfold w4; rfl
theorem w4_nat (a b c d : UInt8) : (w4 a b c d).toNat = pk a.toNat b.toNat c.toNat d.toNat := by
  have ha := a.toNat_lt
  have hb := b.toNat_lt
  have hc := c.toNat_lt
  have hd := d.toNat_lt
  rw [w4_eq]
  simp only [wd, num, List.take_succ_cons, List.take_zero, List.foldl_cons, List.foldl_nil, BitVec.toNat_ofNat, pk]
  omega
theorem w4_xor (a b c d e f g h : UInt8) : w4 a b c d ^^^ w4 e f g h = w4 (a ^^^ e) (b ^^^ f) (c ^^^ g) (d ^^^ h) := by
  apply BitVec.eq_of_toNat_eq
  rw [BitVec.toNat_xor, w4_nat, w4_nat, w4_nat, pk_xor (UInt8.toNat_lt _) (UInt8.toNat_lt _) (UInt8.toNat_lt _) (UInt8.toNat_lt _) (UInt8.toNat_lt _) (UInt8.toNat_lt _)]
  simp only [UInt8.toNat_xor]
def rotl (x : W32) (n : Nat) : W32 := (x <<< n) ||| (x >>> (32 - n))
theorem w4_rot8 (a b c d : UInt8) : rotl (w4 a b c d) 8 = w4 b c d a := by
  have ha := a.toNat_lt
  have hb := b.toNat_lt
  have hc := c.toNat_lt
  have hd := d.toNat_lt
  apply BitVec.eq_of_toNat_eq
  unfold rotl
  rw [BitVec.toNat_or, BitVec.toNat_shiftLeft, BitVec.toNat_ushiftRight, w4_nat, w4_nat, Nat.shiftLeft_eq, Nat.shiftRight_eq_div_pow]
  rw [← pk_or _ _ _ _ ha]
  congr 1
  · unfold pk; omega
  · unfold pk; omega
theorem or_plus (k m n : Nat) (h : n < 2 ^ k) : (m * 2 ^ k) ||| n = m * 2 ^ k + n := by
  rw [Nat.mul_comm]
  exact (Nat.two_pow_add_eq_or_of_lt h m).symm
theorem pk_or2 (a b c d : Nat) (hc : c < 256) (hd : d < 256) : pk a b 0 0 ||| pk 0 0 c d = pk a b c d := by
  have e := or_plus 16 (a * 256 + b) (c * 256 + d) (by omega)
  have e1 : pk a b 0 0 = (a * 256 + b) * 2 ^ 16 := by unfold pk; omega
  have e2 : pk 0 0 c d = c * 256 + d := by unfold pk; omega
  rw [e1, e2, e]
  unfold pk
  omega
theorem pk_or3 (a b c d : Nat) (hb : b < 256) (hc : c < 256) (hd : d < 256) : pk a 0 0 0 ||| pk 0 b c d = pk a b c d := by
  have e := or_plus 24 a ((b * 256 + c) * 256 + d) (by omega)
  have e1 : pk a 0 0 0 = a * 2 ^ 24 := by unfold pk; omega
  have e2 : pk 0 b c d = (b * 256 + c) * 256 + d := by unfold pk; omega
  rw [e1, e2, e]
  unfold pk
  omega
theorem w4_rot16 (a b c d : UInt8) : rotl (w4 a b c d) 16 = w4 c d a b := by
  have ha := a.toNat_lt
  have hb := b.toNat_lt
  have hc := c.toNat_lt
  have hd := d.toNat_lt
  apply BitVec.eq_of_toNat_eq
  unfold rotl
  rw [BitVec.toNat_or, BitVec.toNat_shiftLeft, BitVec.toNat_ushiftRight, w4_nat, w4_nat, Nat.shiftLeft_eq, Nat.shiftRight_eq_div_pow]
  rw [← pk_or2 _ _ _ _ ha hb]
  congr 1
  · unfold pk; omega
  · unfold pk; omega
theorem w4_rot24 (a b c d : UInt8) : rotl (w4 a b c d) 24 = w4 d a b c := by
  have ha := a.toNat_lt
  have hb := b.toNat_lt
  have hc := c.toNat_lt
  have hd := d.toNat_lt
  apply BitVec.eq_of_toNat_eq
  unfold rotl
  rw [BitVec.toNat_or, BitVec.toNat_shiftLeft, BitVec.toNat_ushiftRight, w4_nat, w4_nat, Nat.shiftLeft_eq, Nat.shiftRight_eq_div_pow]
  rw [← pk_or3 _ _ _ _ ha hb hc]
  congr 1
  · unfold pk; omega
  · unfold pk; omega
theorem w4_byte (a b c d : UInt8) : (w4 a b c d).toNat / 16777216 % 256 = a.toNat ∧ (w4 a b c d).toNat / 65536 % 256 = b.toNat ∧ (w4 a b c d).toNat / 256 % 256 = c.toNat ∧ (w4 a b c d).toNat % 256 = d.toNat := by
  have ha := a.toNat_lt
  have hb := b.toNat_lt
  have hc := c.toNat_lt
  have hd := d.toNat_lt
  rw [w4_nat]
  unfold pk
  omega

/-! ### twice, byte by byte -/
set_option maxRecDepth 100000 in
theorem xt_all : ∀ n : Fin 256, (xt 0x1b (UInt8.ofNat n.val)).toNat = (2 * ((UInt8.ofNat n.val).toNat % 128)) ^^^ ((UInt8.ofNat n.val).toNat / 128 * 27) := by decide +kernel
theorem xt_nat (x : UInt8) : (xt 0x1b x).toNat = (2 * (x.toNat % 128)) ^^^ (x.toNat / 128 * 27) := all8 (p := fun x => (xt 0x1b x).toNat = (2 * (x.toNat % 128)) ^^^ (x.toNat / 128 * 27)) xt_all x
def dblW (w : W32) : W32 := ((w &&& 2139062143) <<< 1) ^^^ (((w >>> 7) &&& 16843009) * 27)
theorem dbl_w4 (a b c d : UInt8) : dblW (w4 a b c d) = w4 (xt 0x1b a) (xt 0x1b b) (xt 0x1b c) (xt 0x1b d) := by
  have ha := a.toNat_lt
  have hb := b.toNat_lt
  have hc := c.toNat_lt
  have hd := d.toNat_lt
  apply BitVec.eq_of_toNat_eq
  unfold dblW
  rw [w4_nat, xt_nat, xt_nat, xt_nat, xt_nat, BitVec.toNat_xor, BitVec.toNat_shiftLeft, BitVec.toNat_and, BitVec.toNat_mul, BitVec.toNat_and, BitVec.toNat_ushiftRight, w4_nat]
  rw [show BitVec.toNat (2139062143 : W32) = pk 127 127 127 127 by decide, show BitVec.toNat (16843009 : W32) = pk 1 1 1 1 by decide, show BitVec.toNat (27 : W32) = 27 by decide]
  rw [pk_and hb hc hd (by omega) (by omega) (by omega), Nat.shiftLeft_eq, Nat.shiftRight_eq_div_pow]
  have e7 : ∀ x : Nat, x &&& 127 = x % 128 := fun x => Nat.and_two_pow_sub_one_eq_mod x 7
  rw [e7, e7, e7, e7]
  have e1 : pk a.toNat b.toNat c.toNat d.toNat / 2 ^ 7 = pk (a.toNat / 128) (a.toNat % 128 * 2 + b.toNat / 128) (b.toNat % 128 * 2 + c.toNat / 128) (c.toNat % 128 * 2 + d.toNat / 128) := by unfold pk; omega
  rw [e1, pk_and (by omega) (by omega) (by omega) (by omega) (by omega) (by omega)]
  rw [Nat.and_one_is_mod, Nat.and_one_is_mod, Nat.and_one_is_mod, Nat.and_one_is_mod]
  have m0 : a.toNat / 128 % 2 = a.toNat / 128 := by omega
  have m1 : (a.toNat % 128 * 2 + b.toNat / 128) % 2 = b.toNat / 128 := by omega
  have m2 : (b.toNat % 128 * 2 + c.toNat / 128) % 2 = c.toNat / 128 := by omega
  have m3 : (c.toNat % 128 * 2 + d.toNat / 128) % 2 = d.toNat / 128 := by omega
  rw [m0, m1, m2, m3]
  rw [show pk (a.toNat / 128) (b.toNat / 128) (c.toNat / 128) (d.toNat / 128) * 27 % 2 ^ 32 = pk (a.toNat / 128 * 27) (b.toNat / 128 * 27) (c.toNat / 128 * 27) (d.toNat / 128 * 27) by unfold pk; omega]
  rw [show pk (a.toNat % 128) (b.toNat % 128) (c.toNat % 128) (d.toNat % 128) * 2 ^ 1 % 2 ^ 32 = pk (2 * (a.toNat % 128)) (2 * (b.toNat % 128)) (2 * (c.toNat % 128)) (2 * (d.toNat % 128)) by unfold pk; omega]
  rw [pk_xor (by omega) (by omega) (by omega) (by omega) (by omega) (by omega)]
set_option maxRecDepth 100000 in
theorem gmul2_all : ∀ n : Fin 256, gmul 0x1b (UInt8.ofNat n.val) 2 = xt 0x1b (UInt8.ofNat n.val) ∧ gmul 0x1b (UInt8.ofNat n.val) 3 = xt 0x1b (UInt8.ofNat n.val) ^^^ UInt8.ofNat n.val := by decide +kernel
theorem gmul2 (x : UInt8) : gmul 0x1b x 2 = xt 0x1b x := (all8 (p := fun x => gmul 0x1b x 2 = xt 0x1b x ∧ gmul 0x1b x 3 = xt 0x1b x ^^^ x) gmul2_all x).1
theorem gmul3 (x : UInt8) : gmul 0x1b x 3 = xt 0x1b x ^^^ x := (all8 (p := fun x => gmul 0x1b x 2 = xt 0x1b x ∧ gmul 0x1b x 3 = xt 0x1b x ^^^ x) gmul2_all x).2
/-- A column, mixed. -/
def mxW (w : W32) : W32 := dblW (w ^^^ rotl w 8) ^^^ rotl w 8 ^^^ rotl w 16 ^^^ rotl w 24
theorem mxW_w4 (a b c d : UInt8) : mxW (w4 a b c d) = w4 (mx4 a b c d) (mx4 b c d a) (mx4 c d a b) (mx4 d a b c) := by
  unfold mxW
  rw [w4_rot8, w4_rot16, w4_rot24, w4_xor, dbl_w4, w4_xor, w4_xor, w4_xor]
  have e : ∀ a b c d : UInt8, xt 0x1b (a ^^^ b) ^^^ b ^^^ c ^^^ d = mx4 a b c d := fun a b c d => by
    unfold mx4
    rw [gmul2, gmul3, xt_xor]
    ac_rfl
  rw [e, e, e, e]

/-! ### lists of words -/
/-- The word at place i of bytes. -/
def wAt (L : List UInt8) (i : Nat) : W32 := w4 (L.getD (4 * i) 0) (L.getD (4 * i + 1) 0) (L.getD (4 * i + 2) 0) (L.getD (4 * i + 3) 0)
/-- The first n words of bytes. -/
@[irreducible] def wsOf (L : List UInt8) (n : Nat) : List W32 := (List.range n).map (wAt L)
theorem wsOf_length (L : List UInt8) (n : Nat) : (wsOf L n).length = n := by simp [wsOf]
theorem wsOf_get (L : List UInt8) {n i : Nat} (h : i < n) : (wsOf L n).getD i 0 = wAt L i := by
  rw [List.getD_eq_getElem?_getD]; simp [wsOf, h]
theorem wsOf_succ (L : List UInt8) (n : Nat) : wsOf L (n + 1) = wsOf L n ++ [wAt L n] := by simp [wsOf, List.range_succ]
theorem wsOf_congr {L M : List UInt8} {n : Nat} (h : ∀ i, i < n → wAt L i = wAt M i) : wsOf L n = wsOf M n := by
  unfold wsOf
  exact List.map_congr_left fun i hi => h i (List.mem_range.1 hi)
/-- A round's word of a column, its bytes exchanged and its rows shifted. -/
def exW (c : List W32) (i : Nat) : W32 :=
  w4 (sb (UInt8.ofNat ((c.getD i 0).toNat / 16777216))) (sb (UInt8.ofNat ((c.getD ((i + 1) % 4) 0).toNat / 65536))) (sb (UInt8.ofNat ((c.getD ((i + 2) % 4) 0).toNat / 256))) (sb (UInt8.ofNat ((c.getD ((i + 3) % 4) 0).toNat)))
theorem ofNat_byte {x : Nat} {b : UInt8} (h : x % 256 = b.toNat) : UInt8.ofNat x = b := by
  apply UInt8.toNat_inj.1
  simp [h]
theorem exW_eq (s : List UInt8) {i : Nat} (hi : i < 4) : exW (wsOf s 4) i = wAt (shSub s) i := by
  unfold exW
  rw [wsOf_get s hi, wsOf_get s (show (i + 1) % 4 < 4 by omega), wsOf_get s (show (i + 2) % 4 < 4 by omega), wsOf_get s (show (i + 3) % 4 < 4 by omega)]
  unfold wAt
  rw [ofNat_byte (w4_byte _ _ _ _).1, ofNat_byte (w4_byte _ _ _ _).2.1, ofNat_byte (w4_byte _ _ _ _).2.2.1, ofNat_byte (w4_byte _ _ _ _).2.2.2]
  unfold shSub
  rw [tab_get _ (show 4 * i < 16 by omega), tab_get _ (show 4 * i + 1 < 16 by omega), tab_get _ (show 4 * i + 2 < 16 by omega), tab_get _ (show 4 * i + 3 < 16 by omega)]
  unfold shAt
  rw [show 4 * i / 4 = i by omega, show 4 * i % 4 = 0 by omega, show (4 * i + 1) / 4 = i by omega, show (4 * i + 1) % 4 = 1 by omega, show (4 * i + 2) / 4 = i by omega, show (4 * i + 2) % 4 = 2 by omega, show (4 * i + 3) / 4 = i by omega, show (4 * i + 3) % 4 = 3 by omega]
  rw [show (i + 0) % 4 = i by omega, show 4 * i + 0 = 4 * i from rfl]
theorem mxW_eq (s : List UInt8) {i : Nat} (hi : i < 4) : mxW (wAt s i) = wAt (mixAll s) i := by
  unfold wAt
  rw [mxW_w4]
  unfold mixAll
  rw [tab_get _ (show 4 * i < 16 by omega), tab_get _ (show 4 * i + 1 < 16 by omega), tab_get _ (show 4 * i + 2 < 16 by omega), tab_get _ (show 4 * i + 3 < 16 by omega)]
  rw [show 4 * i / 4 = i by omega, show 4 * i % 4 = 0 by omega, show (4 * i + 1) / 4 = i by omega, show (4 * i + 1) % 4 = 1 by omega, show (4 * i + 2) / 4 = i by omega, show (4 * i + 2) % 4 = 2 by omega, show (4 * i + 3) / 4 = i by omega, show (4 * i + 3) % 4 = 3 by omega]
  rfl
theorem addW_eq (k s : List UInt8) (r : Nat) {i : Nat} (hi : i < 4) : wAt s i ^^^ wAt k (4 * r + i) = wAt (addKey k r s) i := by
  unfold wAt
  rw [w4_xor]
  unfold addKey
  rw [tab_get _ (show 4 * i < 16 by omega), tab_get _ (show 4 * i + 1 < 16 by omega), tab_get _ (show 4 * i + 2 < 16 by omega), tab_get _ (show 4 * i + 3 < 16 by omega)]
  rw [show 4 * (4 * r + i) = 16 * r + 4 * i by omega, ← Nat.add_assoc, ← Nat.add_assoc, ← Nat.add_assoc]
/-- A byte of a column, told. -/
theorem told_eq (s : List UInt8) {i : Nat} (hi : i < 16) : UInt8.ofNat (((wsOf s 4).getD (i / 4) 0).toNat / 2 ^ (24 - 8 * (i % 4))) = s.getD i 0 := by
  rw [wsOf_get s (show i / 4 < 4 by omega)]
  unfold wAt
  obtain ⟨h1, h2, h3, h4⟩ := w4_byte (s.getD (4 * (i / 4)) 0) (s.getD (4 * (i / 4) + 1) 0) (s.getD (4 * (i / 4) + 2) 0) (s.getD (4 * (i / 4) + 3) 0)
  have : i % 4 = 0 ∨ i % 4 = 1 ∨ i % 4 = 2 ∨ i % 4 = 3 := by omega
  rcases this with h | h | h | h
  · rw [h, show 24 - 8 * 0 = 24 by omega, show (2 : Nat) ^ 24 = 16777216 by decide, ofNat_byte h1]; congr 1; omega
  · rw [h, show 24 - 8 * 1 = 16 by omega, show (2 : Nat) ^ 16 = 65536 by decide, ofNat_byte h2]; congr 1; omega
  · rw [h, show 24 - 8 * 2 = 8 by omega, show (2 : Nat) ^ 8 = 256 by decide, ofNat_byte h3]; congr 1; omega
  · rw [h, show 24 - 8 * 3 = 0 by omega, show (2 : Nat) ^ 0 = 1 by decide, Nat.div_one, ofNat_byte h4]; congr 1; omega
end Go.Proofs.YtmjeojbdieaakaaDoor
