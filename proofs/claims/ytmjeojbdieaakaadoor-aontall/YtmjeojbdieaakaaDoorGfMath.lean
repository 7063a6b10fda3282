/-
  Plain mathematics of layer 7: bytes as a field, by a polynomial of eight powers: products bit by bit, inverses, powers of the generator. Nothing of the program here.
-/
import Derived.Test.YtmjeojbdieaakaaDoorLinA
namespace Go.Proofs.YtmjeojbdieaakaaDoor
set_option linter.unusedVariables false

theorem all8 {p : UInt8 → Prop} (h : ∀ n : Fin 256, p (UInt8.ofNat n.val)) (x : UInt8) : p x := by
  have := h ⟨x.toNat, x.toNat_lt⟩
  simpa using this

/-- Twice, by the polynomial (its lower eight bits). -/
def xt (p x : UInt8) : UInt8 := (x <<< 1) ^^^ (if x < 128 then 0 else p)
/-- The product of x and the first k bits of n. -/
def gfm (p : UInt8) : Nat → UInt8 → UInt8 → UInt8
  | 0, _, _ => 0
  | k + 1, x, n => (if n % 2 = 1 then x else 0) ^^^ gfm p k (xt p x) (n / 2)
theorem top8 (x : UInt8) : (x < 128) ↔ x.toNat.testBit 7 = false := by
  have hx := x.toNat_lt
  rw [UInt8.lt_iff_toNat_lt, Nat.testBit_eq_decide_div_mod_eq]
  simp
  omega
theorem top8_xor (x y : UInt8) : (x ^^^ y < 128) ↔ ((x < 128) ↔ (y < 128)) := by
  rw [top8, top8, top8, UInt8.toNat_xor, Nat.testBit_xor]
  cases x.toNat.testBit 7 <;> cases y.toNat.testBit 7 <;> simp
theorem x4 (a b c d : UInt8) : (a ^^^ b) ^^^ (c ^^^ d) = (a ^^^ c) ^^^ (b ^^^ d) := by
  rw [UInt8.xor_assoc, UInt8.xor_assoc, ← UInt8.xor_assoc b, UInt8.xor_comm b c, UInt8.xor_assoc c]
theorem xt_xor (p x y : UInt8) : xt p (x ^^^ y) = xt p x ^^^ xt p y := by
  unfold xt
  rw [UInt8.shiftLeft_xor, x4]
  congr 1
  have h := top8_xor x y
  by_cases hx : x < 128 <;> by_cases hy : y < 128 <;> simp [h, hx, hy]
/-- The two polynomials that there are: the field's, and the one of layer 5. -/
def Poly (p : UInt8) : Prop := p = 0x1d ∨ p = 0x1b
theorem xt_zero (p : UInt8) : xt p 0 = 0 := by unfold xt; simp
theorem gfm_xor (p : UInt8) : ∀ (k : Nat) (x y n : UInt8), gfm p k (x ^^^ y) n = gfm p k x n ^^^ gfm p k y n
  | 0, _, _, _ => by unfold gfm; simp
  | k + 1, x, y, n => by
    unfold gfm
    rw [xt_xor, gfm_xor p k, x4]
    congr 1
    split <;> simp
theorem gfm_zero (p : UInt8) : ∀ (k : Nat) (n : UInt8), gfm p k 0 n = 0
  | 0, _ => rfl
  | k + 1, n => by unfold gfm; rw [xt_zero, gfm_zero p k]; split <;> rfl
theorem gfm_xt (p : UInt8) : ∀ (k : Nat) (x n : UInt8), gfm p k (xt p x) n = xt p (gfm p k x n)
  | 0, _, _ => (xt_zero p).symm
  | k + 1, x, n => by
    unfold gfm
    rw [gfm_xt p k, xt_xor]
    congr 1
    split
    · rfl
    · exact (xt_zero p).symm
/-- The product. -/
def gmul (p x y : UInt8) : UInt8 := gfm p 8 x y
theorem gmul_xor (p x y n : UInt8) : gmul p (x ^^^ y) n = gmul p x n ^^^ gmul p y n := gfm_xor p 8 x y n
theorem gmul_zero_l (p n : UInt8) : gmul p 0 n = 0 := gfm_zero p 8 n
theorem gmul_gfm (p a : UInt8) : ∀ (k : Nat) (x n : UInt8), gmul p (gfm p k x n) a = gfm p k (gmul p x a) n
  | 0, _, _ => gmul_zero_l p a
  | k + 1, x, n => by
    show gmul p ((if n % 2 = 1 then x else 0) ^^^ gfm p k (xt p x) (n / 2)) a = (if n % 2 = 1 then gmul p x a else 0) ^^^ gfm p k (xt p (gmul p x a)) (n / 2)
    rw [gmul_xor, gmul_gfm p a k]
    congr 1
    · split
      · rfl
      · exact gmul_zero_l p a
    · show gfm p k (gfm p 8 (xt p x) a) (n / 2) = gfm p k (xt p (gfm p 8 x a)) (n / 2)
      rw [gfm_xt]
set_option maxRecDepth 100000 in
theorem one_1d : ∀ n : Fin 256, gmul 0x1d 1 (UInt8.ofNat n.val) = UInt8.ofNat n.val := by decide +kernel
set_option maxRecDepth 100000 in
theorem one_1b : ∀ n : Fin 256, gmul 0x1b 1 (UInt8.ofNat n.val) = UInt8.ofNat n.val := by decide +kernel
theorem gmul_one_l {p : UInt8} (hp : Poly p) (x : UInt8) : gmul p 1 x = x := by
  rcases hp with rfl | rfl
  · exact all8 (p := fun x => gmul 0x1d 1 x = x) one_1d x
  · exact all8 (p := fun x => gmul 0x1b 1 x = x) one_1b x
theorem gmul_comm {p : UInt8} (hp : Poly p) (x y : UInt8) : gmul p x y = gmul p y x := by
  have h := gmul_gfm p y 8 1 x
  rw [gmul_one_l hp] at h
  change gmul p (gmul p 1 x) y = gmul p y x at h
  rw [gmul_one_l hp] at h
  exact h
theorem gmul_swap (p x y z : UInt8) : gmul p (gmul p x y) z = gmul p (gmul p x z) y := gmul_gfm p z 8 x y
theorem gmul_assoc {p : UInt8} (hp : Poly p) (x y z : UInt8) : gmul p (gmul p x y) z = gmul p x (gmul p y z) := by
  rw [gmul_comm hp x (gmul p y z), gmul_swap p y z x, gmul_comm hp y x]
/-- The inverse: the 254th power. -/
def ginv (p x : UInt8) : UInt8 :=
  let a2 := gmul p x x; let a4 := gmul p a2 a2; let a8 := gmul p a4 a4; let a16 := gmul p a8 a8; let a32 := gmul p a16 a16; let a64 := gmul p a32 a32; let a128 := gmul p a64 a64
  gmul p a128 (gmul p a64 (gmul p a32 (gmul p a16 (gmul p a8 (gmul p a4 a2)))))
set_option maxRecDepth 100000 in
theorem inv_1d : ∀ n : Fin 256, UInt8.ofNat n.val ≠ 0 → gmul 0x1d (UInt8.ofNat n.val) (ginv 0x1d (UInt8.ofNat n.val)) = 1 := by decide +kernel
set_option maxRecDepth 100000 in
theorem inv_1b : ∀ n : Fin 256, UInt8.ofNat n.val ≠ 0 → gmul 0x1b (UInt8.ofNat n.val) (ginv 0x1b (UInt8.ofNat n.val)) = 1 := by decide +kernel
theorem gmul_inv {p : UInt8} (hp : Poly p) (x : UInt8) (h : x ≠ 0) : gmul p x (ginv p x) = 1 := by
  rcases hp with rfl | rfl
  · exact all8 (p := fun x => x ≠ 0 → gmul 0x1d x (ginv 0x1d x) = 1) inv_1d x h
  · exact all8 (p := fun x => x ≠ 0 → gmul 0x1b x (ginv 0x1b x) = 1) inv_1b x h

/-- A byte of the field. -/
structure GB where
  v : UInt8
instance : Fld GB where
  add x y := ⟨x.v ^^^ y.v⟩
  mul x y := ⟨gmul 0x1d x.v y.v⟩
  zero := ⟨0⟩
  one := ⟨1⟩
  inv x := ⟨ginv 0x1d x.v⟩
  add_comm x y := congrArg GB.mk (UInt8.xor_comm _ _)
  add_assoc x y z := congrArg GB.mk (UInt8.xor_assoc _ _ _)
  add_zero x := congrArg GB.mk (UInt8.xor_zero)
  add_self x := congrArg GB.mk (UInt8.xor_self)
  mul_comm x y := congrArg GB.mk (gmul_comm (.inl rfl) _ _)
  mul_assoc x y z := congrArg GB.mk (gmul_assoc (.inl rfl) _ _ _)
  mul_add x y z := congrArg GB.mk (by
    show gmul 0x1d x.v (y.v ^^^ z.v) = gmul 0x1d x.v y.v ^^^ gmul 0x1d x.v z.v
    rw [gmul_comm (.inl rfl), gmul_xor, gmul_comm (.inl rfl) y.v, gmul_comm (.inl rfl) z.v])
  mul_one x := congrArg GB.mk (by
    show gmul 0x1d x.v 1 = x.v
    rw [gmul_comm (.inl rfl), gmul_one_l (.inl rfl)])
  mul_inv x h := congrArg GB.mk (gmul_inv (.inl rfl) x.v (fun e => h (by cases x; exact congrArg GB.mk e)))
  one_ne h := by
    have := congrArg GB.v h
    exact absurd this (by decide)

/-- The powers of the generator. -/
def gexp : Nat → UInt8
  | 0 => 1
  | n + 1 => gmul 0x1d (gexp n) 2
theorem gexp_add (a b : Nat) : gmul 0x1d (gexp a) (gexp b) = gexp (a + b) := by
  induction b with
  | zero => show gmul 0x1d (gexp a) 1 = gexp a; rw [gmul_comm (.inl rfl), gmul_one_l (.inl rfl)]
  | succ b ih =>
    show gmul 0x1d (gexp a) (gmul 0x1d (gexp b) 2) = gmul 0x1d (gexp (a + b)) 2
    rw [← gmul_assoc (.inl rfl), ih]
def powers : Nat → UInt8 → List UInt8
  | 0, _ => []
  | n + 1, x => x :: powers n (gmul 0x1d x 2)
theorem powers_get : ∀ (n k j : Nat), j < n → (powers n (gexp k))[j]? = some (gexp (k + j))
  | 0, _, _, h => by omega
  | n + 1, k, 0, _ => rfl
  | n + 1, k, j + 1, h => by
    show (powers n (gexp (k + 1)))[j]? = _
    rw [powers_get n (k + 1) j (by omega)]
    congr 2; omega
set_option maxRecDepth 100000 in
theorem gexp_255 : gexp 255 = 1 := by decide +kernel
theorem gexp_mod (n : Nat) : gexp n = gexp (n % 255) := by
  have h : ∀ q r, gexp (255 * q + r) = gexp r := by
    intro q r
    induction q with
    | zero => simp
    | succ q ih =>
      rw [show 255 * (q + 1) + r = 255 + (255 * q + r) by omega, ← gexp_add, gexp_255, gmul_one_l (.inl rfl), ih]
  have := h (n / 255) (n % 255)
  rwa [Nat.div_add_mod] at this
/-- The powers, written out; which power a byte is. -/
def expTab : List UInt8 := [1, 2, 4, 8, 16, 32, 64, 128, 29, 58, 116, 232, 205, 135, 19, 38, 76, 152, 45, 90, 180, 117, 234, 201, 143, 3, 6, 12, 24, 48, 96, 192, 157, 39, 78, 156, 37, 74, 148, 53, 106, 212, 181, 119, 238, 193, 159, 35, 70, 140, 5, 10, 20, 40, 80, 160, 93, 186, 105, 210, 185, 111, 222, 161, 95, 190, 97, 194, 153, 47, 94, 188, 101, 202, 137, 15, 30, 60, 120, 240, 253, 231, 211, 187, 107, 214, 177, 127, 254, 225, 223, 163, 91, 182, 113, 226, 217, 175, 67, 134, 17, 34, 68, 136, 13, 26, 52, 104, 208, 189, 103, 206, 129, 31, 62, 124, 248, 237, 199, 147, 59, 118, 236, 197, 151, 51, 102, 204, 133, 23, 46, 92, 184, 109, 218, 169, 79, 158, 33, 66, 132, 21, 42, 84, 168, 77, 154, 41, 82, 164, 85, 170, 73, 146, 57, 114, 228, 213, 183, 115, 230, 209, 191, 99, 198, 145, 63, 126, 252, 229, 215, 179, 123, 246, 241, 255, 227, 219, 171, 75, 150, 49, 98, 196, 149, 55, 110, 220, 165, 87, 174, 65, 130, 25, 50, 100, 200, 141, 7, 14, 28, 56, 112, 224, 221, 167, 83, 166, 81, 162, 89, 178, 121, 242, 249, 239, 195, 155, 43, 86, 172, 69, 138, 9, 18, 36, 72, 144, 61, 122, 244, 245, 247, 243, 251, 235, 203, 139, 11, 22, 44, 88, 176, 125, 250, 233, 207, 131, 27, 54, 108, 216, 173, 71, 142]
def logTab : List Nat := [0, 0, 1, 25, 2, 50, 26, 198, 3, 223, 51, 238, 27, 104, 199, 75, 4, 100, 224, 14, 52, 141, 239, 129, 28, 193, 105, 248, 200, 8, 76, 113, 5, 138, 101, 47, 225, 36, 15, 33, 53, 147, 142, 218, 240, 18, 130, 69, 29, 181, 194, 125, 106, 39, 249, 185, 201, 154, 9, 120, 77, 228, 114, 166, 6, 191, 139, 98, 102, 221, 48, 253, 226, 152, 37, 179, 16, 145, 34, 136, 54, 208, 148, 206, 143, 150, 219, 189, 241, 210, 19, 92, 131, 56, 70, 64, 30, 66, 182, 163, 195, 72, 126, 110, 107, 58, 40, 84, 250, 133, 186, 61, 202, 94, 155, 159, 10, 21, 121, 43, 78, 212, 229, 172, 115, 243, 167, 87, 7, 112, 192, 247, 140, 128, 99, 13, 103, 74, 222, 237, 49, 197, 254, 24, 227, 165, 153, 119, 38, 184, 180, 124, 17, 68, 146, 217, 35, 32, 137, 46, 55, 63, 209, 91, 149, 188, 207, 205, 144, 135, 151, 178, 220, 252, 190, 97, 242, 86, 211, 171, 20, 42, 93, 158, 132, 60, 57, 83, 71, 109, 65, 162, 31, 45, 67, 216, 183, 123, 164, 118, 196, 23, 73, 236, 127, 12, 111, 246, 108, 161, 59, 82, 41, 157, 85, 170, 251, 96, 134, 177, 187, 204, 62, 90, 203, 89, 95, 176, 156, 169, 160, 81, 11, 245, 22, 235, 122, 117, 44, 215, 79, 174, 213, 233, 230, 231, 173, 232, 116, 214, 244, 234, 168, 80, 88, 175]
def glog (x : UInt8) : Nat := logTab.getD x.toNat 0
set_option maxRecDepth 100000 in
theorem powers_tab : powers 255 1 = expTab := by decide +kernel
theorem expTab_get (j : Nat) (h : j < 255) : expTab[j]? = some (gexp j) := by
  have := powers_get 255 0 j h
  rw [Nat.zero_add] at this
  rw [← powers_tab]
  exact this
set_option maxRecDepth 100000 in
theorem glog_all : ∀ n : Fin 256, UInt8.ofNat n.val ≠ 0 → glog (UInt8.ofNat n.val) < 255 ∧ expTab[glog (UInt8.ofNat n.val)]? = some (UInt8.ofNat n.val) := by decide +kernel
theorem gexp_log (x : UInt8) (h : x ≠ 0) : glog x < 255 ∧ gexp (glog x) = x := by
  have := all8 (p := fun x => x ≠ 0 → glog x < 255 ∧ expTab[glog x]? = some x) glog_all x h
  refine ⟨this.1, ?_⟩
  exact Option.some.inj ((expTab_get (glog x) this.1).symm.trans this.2)
theorem gmul_ne {p x y : UInt8} (hp : Poly p) (hx : x ≠ 0) (hy : y ≠ 0) : gmul p x y ≠ 0 := by
  intro h
  have h1 := gmul_inv hp x hx
  have h2 : gmul p (gmul p x y) (ginv p x) = y := by
    rw [gmul_swap, h1, gmul_one_l hp]
  rw [h, gmul_zero_l] at h2
  exact hy h2.symm
theorem gexp_ne (n : Nat) : gexp n ≠ 0 := by
  induction n with
  | zero => decide
  | succ n ih => exact gmul_ne (.inl rfl) ih (by decide)
set_option maxRecDepth 100000 in
theorem glog_exp_all : ∀ n : Fin 255, (expTab[n.val]?).map glog = some n.val := by decide +kernel
theorem glog_exp (n : Nat) (h : n < 255) : glog (gexp n) = n := by
  have h1 := glog_exp_all ⟨n, h⟩
  rw [show ((⟨n, h⟩ : Fin 255).val) = n from rfl, expTab_get n h] at h1
  exact Option.some.inj h1
end Go.Proofs.YtmjeojbdieaakaaDoor
