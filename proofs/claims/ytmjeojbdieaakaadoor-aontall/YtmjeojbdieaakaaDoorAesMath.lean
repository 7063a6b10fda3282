/-
  Plain mathematics of layer 5: the table, a key's words, a block's rounds; by one key unlike blocks become unlike ones. Nothing of the program here.
-/
import Derived.Test.YtmjeojbdieaakaaDoorGfMath
namespace Go.Proofs.YtmjeojbdieaakaaDoor
set_option linter.unusedVariables false

/-- The table, written out, and the one that takes it back. -/
@[irreducible] def sbox : List UInt8 := [99, 124, 119, 123, 242, 107, 111, 197, 48, 1, 103, 43, 254, 215, 171, 118, 202, 130, 201, 125, 250, 89, 71, 240, 173, 212, 162, 175, 156, 164, 114, 192, 183, 253, 147, 38, 54, 63, 247, 204, 52, 165, 229, 241, 113, 216, 49, 21, 4, 199, 35, 195, 24, 150, 5, 154, 7, 18, 128, 226, 235, 39, 178, 117, 9, 131, 44, 26, 27, 110, 90, 160, 82, 59, 214, 179, 41, 227, 47, 132, 83, 209, 0, 237, 32, 252, 177, 91, 106, 203, 190, 57, 74, 76, 88, 207, 208, 239, 170, 251, 67, 77, 51, 133, 69, 249, 2, 127, 80, 60, 159, 168, 81, 163, 64, 143, 146, 157, 56, 245, 188, 182, 218, 33, 16, 255, 243, 210, 205, 12, 19, 236, 95, 151, 68, 23, 196, 167, 126, 61, 100, 93, 25, 115, 96, 129, 79, 220, 34, 42, 144, 136, 70, 238, 184, 20, 222, 94, 11, 219, 224, 50, 58, 10, 73, 6, 36, 92, 194, 211, 172, 98, 145, 149, 228, 121, 231, 200, 55, 109, 141, 213, 78, 169, 108, 86, 244, 234, 101, 122, 174, 8, 186, 120, 37, 46, 28, 166, 180, 198, 232, 221, 116, 31, 75, 189, 139, 138, 112, 62, 181, 102, 72, 3, 246, 14, 97, 53, 87, 185, 134, 193, 29, 158, 225, 248, 152, 17, 105, 217, 142, 148, 155, 30, 135, 233, 206, 85, 40, 223, 140, 161, 137, 13, 191, 230, 66, 104, 65, 153, 45, 15, 176, 84, 187, 22]
def sboxBack : List UInt8 := [82, 9, 106, 213, 48, 54, 165, 56, 191, 64, 163, 158, 129, 243, 215, 251, 124, 227, 57, 130, 155, 47, 255, 135, 52, 142, 67, 68, 196, 222, 233, 203, 84, 123, 148, 50, 166, 194, 35, 61, 238, 76, 149, 11, 66, 250, 195, 78, 8, 46, 161, 102, 40, 217, 36, 178, 118, 91, 162, 73, 109, 139, 209, 37, 114, 248, 246, 100, 134, 104, 152, 22, 212, 164, 92, 204, 93, 101, 182, 146, 108, 112, 72, 80, 253, 237, 185, 218, 94, 21, 70, 87, 167, 141, 157, 132, 144, 216, 171, 0, 140, 188, 211, 10, 247, 228, 88, 5, 184, 179, 69, 6, 208, 44, 30, 143, 202, 63, 15, 2, 193, 175, 189, 3, 1, 19, 138, 107, 58, 145, 17, 65, 79, 103, 220, 234, 151, 242, 207, 206, 240, 180, 230, 115, 150, 172, 116, 34, 231, 173, 53, 133, 226, 249, 55, 232, 28, 117, 223, 110, 71, 241, 26, 113, 29, 41, 197, 137, 111, 183, 98, 14, 170, 24, 190, 27, 252, 86, 62, 75, 198, 210, 121, 32, 154, 219, 192, 254, 120, 205, 90, 244, 31, 221, 168, 51, 136, 7, 199, 49, 177, 18, 16, 89, 39, 128, 236, 95, 96, 81, 127, 169, 25, 181, 74, 13, 45, 229, 122, 159, 147, 201, 156, 239, 160, 224, 59, 77, 174, 42, 245, 176, 200, 235, 187, 60, 131, 83, 153, 97, 23, 43, 4, 126, 186, 119, 214, 38, 225, 105, 20, 99, 85, 33, 12, 125]
def sb (x : UInt8) : UInt8 := sbox.getD x.toNat 0
/-- The bits of a byte's inverse, and what the table makes of them. -/
def subBit (b i : Nat) : Nat := ((b >>> i) ^^^ (b >>> ((i + 4) % 8)) ^^^ (b >>> ((i + 5) % 8)) ^^^ (b >>> ((i + 6) % 8)) ^^^ (b >>> ((i + 7) % 8)) ^^^ (99 >>> i)) % 2
def subOf (b : Nat) : Nat → Nat
  | 0 => 0
  | k + 1 => subOf b k + subBit b k <<< k
set_option maxRecDepth 100000 in
theorem sb_all : ∀ n : Fin 256, (sb (UInt8.ofNat n.val)).toNat = subOf (ginv 0x1b (UInt8.ofNat n.val)).toNat 8 := by decide +kernel
theorem sb_eq (x : UInt8) : (sb x).toNat = subOf (ginv 0x1b x).toNat 8 := all8 (p := fun x => (sb x).toNat = subOf (ginv 0x1b x).toNat 8) sb_all x
set_option maxRecDepth 100000 in
theorem sb_back_all : ∀ n : Fin 256, sboxBack.getD (sb (UInt8.ofNat n.val)).toNat 0 = UInt8.ofNat n.val := by decide +kernel
theorem sb_inj {x y : UInt8} (h : sb x = sb y) : x = y := by
  have h1 := all8 (p := fun x => sboxBack.getD (sb x).toNat 0 = x) sb_back_all x
  have h2 := all8 (p := fun x => sboxBack.getD (sb x).toNat 0 = x) sb_back_all y
  rw [← h1, ← h2, h]

/-- Four numbers of a column, mixed; and back. -/
def mx4 (a b c d : UInt8) : UInt8 := gmul 0x1b a 2 ^^^ gmul 0x1b b 3 ^^^ c ^^^ d
def mxb (a b c d : UInt8) : UInt8 := gmul 0x1b 14 a ^^^ gmul 0x1b 11 b ^^^ gmul 0x1b 13 c ^^^ gmul 0x1b 9 d
theorem mul_mx (k a b c d : UInt8) : gmul 0x1b k (mx4 a b c d) = gmul 0x1b (gmul 0x1b k 2) a ^^^ gmul 0x1b (gmul 0x1b k 3) b ^^^ gmul 0x1b k c ^^^ gmul 0x1b k d := by
  have hp : Poly 0x1b := .inr rfl
  unfold mx4
  have hx : ∀ u v, gmul 0x1b k (u ^^^ v) = gmul 0x1b k u ^^^ gmul 0x1b k v := fun u v => by
    rw [gmul_comm hp, gmul_xor, gmul_comm hp u, gmul_comm hp v]
  rw [hx, hx, hx, gmul_comm hp a 2, gmul_comm hp b 3, gmul_assoc hp, gmul_assoc hp]
theorem mxb_mx (a b c d : UInt8) : mxb (mx4 a b c d) (mx4 b c d a) (mx4 c d a b) (mx4 d a b c) = a := by
  have hp : Poly 0x1b := .inr rfl
  unfold mxb
  rw [mul_mx, mul_mx, mul_mx, mul_mx]
  have e : ∀ k l m n x : UInt8, gmul 0x1b k x ^^^ gmul 0x1b l x ^^^ gmul 0x1b m x ^^^ gmul 0x1b n x = gmul 0x1b (k ^^^ l ^^^ m ^^^ n) x := fun k l m n x => by
    rw [gmul_xor, gmul_xor, gmul_xor]
  have ea := e (gmul 0x1b 14 2) 11 13 (gmul 0x1b 9 3) a
  have eb := e (gmul 0x1b 14 3) (gmul 0x1b 11 2) 13 9 b
  have ec := e 14 (gmul 0x1b 11 3) (gmul 0x1b 13 2) 9 c
  have ed := e 14 11 (gmul 0x1b 13 3) (gmul 0x1b 9 2) d
  rw [show gmul 0x1b 14 2 ^^^ 11 ^^^ 13 ^^^ gmul 0x1b 9 3 = 1 by decide, gmul_one_l hp] at ea
  rw [show gmul 0x1b 14 3 ^^^ gmul 0x1b 11 2 ^^^ 13 ^^^ 9 = 0 by decide, gmul_zero_l] at eb
  rw [show 14 ^^^ gmul 0x1b 11 3 ^^^ gmul 0x1b 13 2 ^^^ 9 = 0 by decide, gmul_zero_l] at ec
  rw [show 14 ^^^ 11 ^^^ gmul 0x1b 13 3 ^^^ gmul 0x1b 9 2 = 0 by decide, gmul_zero_l] at ed
  have hs : ∀ a1 b1 c1 d1 b2 c2 d2 a2 c3 d3 a3 b3 d4 a4 b4 c4 : UInt8, (a1 ^^^ b1 ^^^ c1 ^^^ d1) ^^^ (b2 ^^^ c2 ^^^ d2 ^^^ a2) ^^^ (c3 ^^^ d3 ^^^ a3 ^^^ b3) ^^^ (d4 ^^^ a4 ^^^ b4 ^^^ c4) = (a1 ^^^ a2 ^^^ a3 ^^^ a4) ^^^ (b1 ^^^ b2 ^^^ b3 ^^^ b4) ^^^ (c1 ^^^ c2 ^^^ c3 ^^^ c4) ^^^ (d1 ^^^ d2 ^^^ d3 ^^^ d4) := by
    intros
    ac_rfl
  rw [hs, ea, eb, ec, ed]
  simp

/-- A list of n, made place by place. -/
def tab (n : Nat) (f : Nat → UInt8) : List UInt8 := (List.range n).map f
theorem tab_length (n : Nat) (f : Nat → UInt8) : (tab n f).length = n := by simp [tab]
theorem tab_get {n i : Nat} (f : Nat → UInt8) (h : i < n) : (tab n f).getD i 0 = f i := by
  rw [List.getD_eq_getElem?_getD]; simp [tab, h]
theorem tab_ext {n : Nat} {l : List UInt8} (hl : l.length = n) : l = tab n (fun i => l.getD i 0) := by
  apply List.ext_getElem
  · rw [tab_length, hl]
  · intro i h1 h2
    simp [tab, List.getD_eq_getElem?_getD, List.getElem?_eq_getElem h1]
theorem tab_inj {n : Nat} {f g : Nat → UInt8} (h : tab n f = tab n g) : ∀ i, i < n → f i = g i := fun i hi => by rw [← tab_get f hi, ← tab_get g hi, h]
theorem tab_congr {n : Nat} {f g : Nat → UInt8} (h : ∀ i, i < n → f i = g i) : tab n f = tab n g := by
  unfold tab
  exact List.map_congr_left fun i hi => h i (List.mem_range.1 hi)

/-- Where a round takes its bytes from. -/
def shAt (i : Nat) : Nat := 4 * ((i / 4 + i % 4) % 4) + i % 4
def shSub (s : List UInt8) : List UInt8 := tab 16 (fun i => sb (s.getD (shAt i) 0))
def mixAll (y : List UInt8) : List UInt8 := tab 16 (fun i => mx4 (y.getD i 0) (y.getD (4 * (i / 4) + (i % 4 + 1) % 4) 0) (y.getD (4 * (i / 4) + (i % 4 + 2) % 4) 0) (y.getD (4 * (i / 4) + (i % 4 + 3) % 4) 0))
def addKey (w : List UInt8) (r : Nat) (s : List UInt8) : List UInt8 := tab 16 (fun i => s.getD i 0 ^^^ w.getD (16 * r + i) 0)
def aesRound (w : List UInt8) (r : Nat) (s : List UInt8) : List UInt8 := addKey w r (if r < 14 then mixAll (shSub s) else shSub s)
def aesRounds (w : List UInt8) : Nat → List UInt8 → List UInt8
  | 0, s => addKey w 0 s
  | r + 1, s => aesRound w (r + 1) (aesRounds w r s)
@[irreducible] def aesBlock (w x : List UInt8) : List UInt8 := aesRounds w 14 x
theorem aesBlock_eq (w x : List UInt8) : aesBlock w x = aesRounds w 14 x := by unfold aesBlock; rfl
theorem aesRounds_length (w : List UInt8) : ∀ r s, (aesRounds w r s).length = 16
  | 0, s => tab_length _ _
  | r + 1, s => tab_length _ _
theorem aesBlock_length (w x : List UInt8) : (aesBlock w x).length = 16 := by rw [aesBlock_eq]; exact aesRounds_length w 14 x

theorem xor_inj {a b c : UInt8} (h : a ^^^ c = b ^^^ c) : a = b := by
  have := congrArg (· ^^^ c) h
  simpa [UInt8.xor_assoc] using this
theorem addKey_inj {w : List UInt8} {r : Nat} {s t : List UInt8} (hs : s.length = 16) (ht : t.length = 16) (h : addKey w r s = addKey w r t) : s = t := by
  rw [tab_ext hs, tab_ext ht]
  exact tab_congr fun i hi => xor_inj (tab_inj h i hi)
theorem shAt_onto (i : Nat) (h : i < 16) : ∃ k, k < 16 ∧ shAt k = i := by
  have h2 : ∀ i : Fin 16, ∃ k : Fin 16, shAt k.val = i.val := by decide +kernel
  obtain ⟨k, hk⟩ := h2 ⟨i, h⟩
  exact ⟨k.val, k.isLt, hk⟩
theorem shSub_inj {s t : List UInt8} (hs : s.length = 16) (ht : t.length = 16) (h : shSub s = shSub t) : s = t := by
  rw [tab_ext hs, tab_ext ht]
  refine tab_congr fun i hi => ?_
  obtain ⟨k, hk, rfl⟩ := shAt_onto i hi
  exact sb_inj (tab_inj h k hk)
theorem mix_col {s t : List UInt8} (h : ∀ i, i < 16 → mx4 (s.getD i 0) (s.getD (4 * (i / 4) + (i % 4 + 1) % 4) 0) (s.getD (4 * (i / 4) + (i % 4 + 2) % 4) 0) (s.getD (4 * (i / 4) + (i % 4 + 3) % 4) 0) = mx4 (t.getD i 0) (t.getD (4 * (i / 4) + (i % 4 + 1) % 4) 0) (t.getD (4 * (i / 4) + (i % 4 + 2) % 4) 0) (t.getD (4 * (i / 4) + (i % 4 + 3) % 4) 0))
    (i : Nat) (hi : i < 16) : s.getD i 0 = t.getD i 0 := by
  obtain ⟨c, k, hc, hk, rfl⟩ : ∃ c k, c < 4 ∧ k < 4 ∧ i = 4 * c + k := ⟨i / 4, i % 4, by omega, by omega, by omega⟩
  have at_ : ∀ j, j < 4 → (4 * c + j) / 4 = c ∧ (4 * c + j) % 4 = j := fun j hj => ⟨by omega, by omega⟩
  have h0 := h (4 * c + k) (by omega)
  have h1 := h (4 * c + (k + 1) % 4) (by omega)
  have h2 := h (4 * c + (k + 2) % 4) (by omega)
  have h3 := h (4 * c + (k + 3) % 4) (by omega)
  rw [(at_ k hk).1, (at_ k hk).2] at h0
  rw [(at_ ((k + 1) % 4) (by omega)).1, (at_ ((k + 1) % 4) (by omega)).2, show ((k + 1) % 4 + 1) % 4 = (k + 2) % 4 by omega, show ((k + 1) % 4 + 2) % 4 = (k + 3) % 4 by omega, show ((k + 1) % 4 + 3) % 4 = k by omega] at h1
  rw [(at_ ((k + 2) % 4) (by omega)).1, (at_ ((k + 2) % 4) (by omega)).2, show ((k + 2) % 4 + 1) % 4 = (k + 3) % 4 by omega, show ((k + 2) % 4 + 2) % 4 = k by omega, show ((k + 2) % 4 + 3) % 4 = (k + 1) % 4 by omega] at h2
  rw [(at_ ((k + 3) % 4) (by omega)).1, (at_ ((k + 3) % 4) (by omega)).2, show ((k + 3) % 4 + 1) % 4 = k by omega, show ((k + 3) % 4 + 2) % 4 = (k + 1) % 4 by omega, show ((k + 3) % 4 + 3) % 4 = (k + 2) % 4 by omega] at h3
  rw [← mxb_mx (s.getD (4 * c + k) 0) (s.getD (4 * c + (k + 1) % 4) 0) (s.getD (4 * c + (k + 2) % 4) 0) (s.getD (4 * c + (k + 3) % 4) 0), h0, h1, h2, h3, mxb_mx]
theorem mixAll_inj {s t : List UInt8} (hs : s.length = 16) (ht : t.length = 16) (h : mixAll s = mixAll t) : s = t := by
  rw [tab_ext hs, tab_ext ht]
  exact tab_congr fun i hi => mix_col (tab_inj h) i hi
theorem aesRound_inj {w : List UInt8} {r : Nat} {s t : List UInt8} (hs : s.length = 16) (ht : t.length = 16) (h : aesRound w r s = aesRound w r t) : s = t := by
  unfold aesRound at h
  by_cases hr : r < 14
  · rw [if_pos hr, if_pos hr] at h
    exact shSub_inj hs ht (mixAll_inj (tab_length _ _) (tab_length _ _) (addKey_inj (tab_length _ _) (tab_length _ _) h))
  · rw [if_neg hr, if_neg hr] at h
    exact shSub_inj hs ht (addKey_inj (tab_length _ _) (tab_length _ _) h)
theorem aesRounds_inj {w : List UInt8} {s t : List UInt8} (hs : s.length = 16) (ht : t.length = 16) : ∀ r, aesRounds w r s = aesRounds w r t → s = t
  | 0, h => addKey_inj hs ht h
  | r + 1, h => aesRounds_inj hs ht r (aesRound_inj (aesRounds_length _ _ _) (aesRounds_length _ _ _) h)
theorem aesBlock_inj {w x y : List UInt8} (hx : x.length = 16) (hy : y.length = 16) (h : aesBlock w x = aesBlock w y) : x = y := by
  rw [aesBlock_eq, aesBlock_eq] at h
  exact aesRounds_inj hx hy 14 h

/-- A key's words, four bytes each, one behind the other: the first n of them. -/
def aesWord (rc : UInt8) (w : List UInt8) (i : Nat) : List UInt8 :=
  let x := fun k => w.getD (4 * i - 4 + k) 0
  let y := fun k => if i % 8 = 0 then (sb (x ((k + 1) % 4)) ^^^ (if k = 0 then rc else 0)) else if i % 8 = 4 then sb (x k) else x k
  tab 4 (fun k => w.getD (4 * i - 32 + k) 0 ^^^ y k)
def aesRc : Nat → UInt8
  | 0 => 1
  | n + 1 => gmul 0x1b (aesRc n) 2
def aesWordsN (key : List UInt8) : Nat → List UInt8
  | 0 => key
  | n + 1 => aesWordsN key n ++ aesWord (aesRc ((8 + n) / 8 - 1)) (aesWordsN key n) (8 + n)
@[irreducible] def aesWords (key : List UInt8) : List UInt8 := aesWordsN key 52
theorem aesWords_eq (key : List UInt8) : aesWords key = aesWordsN key 52 := by unfold aesWords; rfl
theorem aesWordsN_length {key : List UInt8} (h : key.length = 32) : ∀ n, (aesWordsN key n).length = 32 + 4 * n
  | 0 => h
  | n + 1 => by
    unfold aesWordsN
    rw [List.length_append, aesWordsN_length h n]
    unfold aesWord
    rw [tab_length]; omega
theorem aesWords_length {key : List UInt8} (h : key.length = 32) : (aesWords key).length = 240 := by rw [aesWords_eq, aesWordsN_length h]
set_option maxRecDepth 100000 in
theorem aes_known : aesBlock (aesWords (tab 32 UInt8.ofNat)) (tab 16 (fun i => UInt8.ofNat (17 * i))) = [0x8e, 0xa2, 0xb7, 0xca, 0x51, 0x67, 0x45, 0xbf, 0xea, 0xfc, 0x49, 0x90, 0x4b, 0x49, 0x60, 0x89] := by
  rw [aesBlock_eq, aesWords_eq]
  decide +kernel
end Go.Proofs.YtmjeojbdieaakaaDoor
