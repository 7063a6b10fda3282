/-
  Plain mathematics of layer 5, going on: how the table is made; one list that overwrites another. Nothing of the program here.
-/
import Derived.Test.YtmjeojbdieaakaaDoorAesW
import Derived.Test.YtmjeojbdieaakaaDoorPb
namespace Go.Proofs.YtmjeojbdieaakaaDoor
set_option linter.unusedVariables false

/-! ### the table -/
def pw : Nat → UInt8
  | 0 => 1
  | n + 1 => pw n ^^^ xt 0x1b (pw n)
/-- The powers of 3, written out; the bytes' inverses. -/
@[irreducible] def pwl : List UInt8 := [1, 3, 5, 15, 17, 51, 85, 255, 26, 46, 114, 150, 161, 248, 19, 53, 95, 225, 56, 72, 216, 115, 149, 164, 247, 2, 6, 10, 30, 34, 102, 170, 229, 52, 92, 228, 55, 89, 235, 38, 106, 190, 217, 112, 144, 171, 230, 49, 83, 245, 4, 12, 20, 60, 68, 204, 79, 209, 104, 184, 211, 110, 178, 205, 76, 212, 103, 169, 224, 59, 77, 215, 98, 166, 241, 8, 24, 40, 120, 136, 131, 158, 185, 208, 107, 189, 220, 127, 129, 152, 179, 206, 73, 219, 118, 154, 181, 196, 87, 249, 16, 48, 80, 240, 11, 29, 39, 105, 187, 214, 97, 163, 254, 25, 43, 125, 135, 146, 173, 236, 47, 113, 147, 174, 233, 32, 96, 160, 251, 22, 58, 78, 210, 109, 183, 194, 93, 231, 50, 86, 250, 21, 63, 65, 195, 94, 226, 61, 71, 201, 64, 192, 91, 237, 44, 116, 156, 191, 218, 117, 159, 186, 213, 100, 172, 239, 42, 126, 130, 157, 188, 223, 122, 142, 137, 128, 155, 182, 193, 88, 232, 35, 101, 175, 234, 37, 111, 177, 200, 67, 197, 84, 252, 31, 33, 99, 165, 244, 7, 9, 27, 45, 119, 153, 176, 203, 70, 202, 69, 207, 74, 222, 121, 139, 134, 145, 168, 227, 62, 66, 198, 81, 243, 14, 18, 54, 90, 238, 41, 123, 141, 140, 143, 138, 133, 148, 167, 242, 13, 23, 57, 75, 221, 124, 132, 151, 162, 253, 28, 36, 108, 180, 199, 82, 246, 1]
@[irreducible] def invl : List UInt8 := [0, 1, 141, 246, 203, 82, 123, 209, 232, 79, 41, 192, 176, 225, 229, 199, 116, 180, 170, 75, 153, 43, 96, 95, 88, 63, 253, 204, 255, 64, 238, 178, 58, 110, 90, 241, 85, 77, 168, 201, 193, 10, 152, 21, 48, 68, 162, 194, 44, 69, 146, 108, 243, 57, 102, 66, 242, 53, 32, 111, 119, 187, 89, 25, 29, 254, 55, 103, 45, 49, 245, 105, 167, 100, 171, 19, 84, 37, 233, 9, 237, 92, 5, 202, 76, 36, 135, 191, 24, 62, 34, 240, 81, 236, 97, 23, 22, 94, 175, 211, 73, 166, 54, 67, 244, 71, 145, 223, 51, 147, 33, 59, 121, 183, 151, 133, 16, 181, 186, 60, 182, 112, 208, 6, 161, 250, 129, 130, 131, 126, 127, 128, 150, 115, 190, 86, 155, 158, 149, 217, 247, 2, 185, 164, 222, 106, 50, 109, 216, 138, 132, 114, 42, 20, 159, 136, 249, 220, 137, 154, 251, 124, 46, 195, 143, 184, 101, 72, 38, 200, 18, 74, 206, 231, 210, 98, 12, 224, 31, 239, 17, 117, 120, 113, 165, 142, 118, 61, 189, 188, 134, 87, 11, 40, 47, 163, 218, 212, 228, 15, 169, 39, 83, 4, 27, 252, 172, 230, 122, 7, 174, 99, 197, 219, 226, 234, 148, 139, 196, 213, 157, 248, 144, 107, 177, 13, 214, 235, 198, 14, 207, 173, 8, 78, 215, 227, 93, 80, 30, 179, 91, 35, 56, 52, 104, 70, 3, 140, 221, 156, 125, 160, 205, 26, 65, 28]
theorem pwl_length : pwl.length = 256 := by decide +kernel
theorem invl_length : invl.length = 256 := by decide +kernel
theorem sbox_length : sbox.length = 256 := by decide +kernel
set_option maxRecDepth 100000 in
theorem pwl_all : ∀ n : Fin 255, pwl[n.val + 1]? = (pwl[n.val]?).map (fun x => x ^^^ xt 0x1b x) := by decide +kernel
theorem pw_get : ∀ n, n < 256 → pwl[n]? = some (pw n)
  | 0, _ => by decide +kernel
  | n + 1, h => by
    rw [pwl_all ⟨n, by omega⟩, pw_get n (by omega)]; rfl
def invN : Nat → List UInt8
  | 0 => List.replicate 256 0
  | n + 1 => (invN n).set (pwl.getD n 0).toNat (pwl.getD (255 - n) 0)
theorem invN_length : ∀ n, (invN n).length = 256
  | 0 => List.length_replicate
  | n + 1 => by unfold invN; rw [List.length_set, invN_length n]
set_option maxRecDepth 100000 in
theorem invN_all : invN 256 = invl := by decide +kernel
/-- The affine turn: the first n of its four steps. -/
def trn (x : UInt8) : Nat → UInt8
  | 0 => x ^^^ 0x63
  | n + 1 => trn x n ^^^ ((x <<< UInt8.ofNat (n + 1)) ||| (x >>> UInt8.ofNat (8 - (n + 1))))
set_option maxRecDepth 100000 in
theorem trn_all : ∀ n : Fin 256, (invl[n.val]?).map (fun x => trn x 4) = sbox[n.val]? := by decide +kernel
theorem trn_get (n : Nat) (h : n < 256) : sbox[n]? = some (trn (invl.getD n 0) 4) := by
  rw [← trn_all ⟨n, h⟩, List.getD_eq_getElem?_getD, List.getElem?_eq_getElem (show n < invl.length by rw [invl_length]; exact h)]
  rfl
theorem sb_get (x : UInt8) : sbox[x.toNat]? = some (sb x) := by
  unfold sb
  rw [List.getD_eq_getElem?_getD, List.getElem?_eq_getElem (show x.toNat < sbox.length by rw [sbox_length]; exact x.toNat_lt)]
  rfl

/-! ### products, bit by bit; inverses -/
theorem gfm_zero_r (p : UInt8) : ∀ (k : Nat) (x : UInt8), gfm p k x 0 = 0
  | 0, _ => rfl
  | k + 1, x => by
    unfold gfm
    rw [show (0 : UInt8) / 2 = 0 by decide, gfm_zero_r p k]
    simp
theorem ginv_zero : ginv 0x1b 0 = 0 := by decide +kernel
theorem ginv_only (a b : UInt8) (h : gmul 0x1b a b = 1) : b = ginv 0x1b a := by
  have hp : Poly 0x1b := .inr rfl
  have ha : a ≠ 0 := by
    rintro rfl
    rw [gmul_zero_l] at h
    exact absurd h (by decide)
  have h1 := gmul_inv hp a ha
  have h2 : gmul 0x1b (gmul 0x1b a b) (ginv 0x1b a) = b := by rw [gmul_swap, h1, gmul_one_l hp]
  rw [h, gmul_one_l hp] at h2
  exact h2.symm
theorem ginv_ne (a : UInt8) (h : a ≠ 0) : ginv 0x1b a ≠ 0 := by
  intro e
  have h1 := gmul_inv (p := 0x1b) (.inr rfl) a h
  rw [e, gmul_comm (.inr rfl), gmul_zero_l] at h1
  exact absurd h1 (by decide)
end Go.Proofs.YtmjeojbdieaakaaDoor
