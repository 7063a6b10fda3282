/-
  Plain mathematics of layer 2: words of 32 bits, a block's words, its rounds, whole blocks, what ends a text. Nothing of the program here.
-/
import Derived.Test.YtibcjbelcplpjaaDoorBinMath
namespace Go.Proofs.YtibcjbelcplpjaaDoor

abbrev W32 := BitVec 32
/-- A word as the number that stands for it. -/
@[irreducible] def wv (x : W32) : Int := (x.toNat : Int)
theorem wv_eq (x : W32) : wv x = (x.toNat : Int) := by unfold wv; rfl
theorem wv_nonneg (x : W32) : 0 ≤ wv x := by rw [wv_eq]; omega
theorem wv_lt (x : W32) : wv x < 4294967296 := by rw [wv_eq]; have := x.isLt; omega
theorem wv_inj {x y : W32} (h : wv x = wv y) : x = y := by
  rw [wv_eq, wv_eq] at h
  exact BitVec.eq_of_toNat_eq (by omega)
theorem wv_ofNat (n : Nat) (h : n < 4294967296) : wv (BitVec.ofNat 32 n) = (n : Int) := by
  rw [wv_eq, BitVec.toNat_ofNat]; omega
theorem wv_add (x y : W32) : (wv x + wv y) % 4294967296 = wv (x + y) := by
  rw [wv_eq, wv_eq, wv_eq, BitVec.toNat_add]; omega

def rotr (x : W32) (n : Nat) : W32 := (x >>> n) ||| (x <<< (32 - n))
def bS0 (x : W32) : W32 := rotr x 2 ^^^ rotr x 13 ^^^ rotr x 22
def bS1 (x : W32) : W32 := rotr x 6 ^^^ rotr x 11 ^^^ rotr x 25
def sS0 (x : W32) : W32 := rotr x 7 ^^^ rotr x 18 ^^^ (x >>> 3)
def sS1 (x : W32) : W32 := rotr x 17 ^^^ rotr x 19 ^^^ (x >>> 10)
def chW (e f g : W32) : W32 := (e &&& f) ^^^ (~~~e &&& g)
def majW (a b c : W32) : W32 := (a &&& b) ^^^ (a &&& c) ^^^ (b &&& c)

/-- The same, as the document's own answer says them. -/
theorem chW_or (e f g : W32) : (e &&& f) ||| (~~~e &&& g) = chW e f g := by
  unfold chW
  apply BitVec.eq_of_getLsbD_eq
  intro i hi
  simp only [BitVec.getLsbD_or, BitVec.getLsbD_and, BitVec.getLsbD_xor, BitVec.getLsbD_not, hi, decide_true, Bool.true_and]
  cases e.getLsbD i <;> cases f.getLsbD i <;> cases g.getLsbD i <;> rfl
theorem majW_or (a b c : W32) : (a &&& b) ||| (a &&& c) ||| (b &&& c) = majW a b c := by
  unfold majW
  apply BitVec.eq_of_getLsbD_eq
  intro i hi
  simp only [BitVec.getLsbD_or, BitVec.getLsbD_and, BitVec.getLsbD_xor]
  cases a.getLsbD i <;> cases b.getLsbD i <;> cases c.getLsbD i <;> rfl
theorem rotr_lost (x : W32) (n : Nat) (h1 : 1 ≤ n) (h : n < 32) : rotr x n ^^^ (x <<< (32 - n)) = x >>> n := by
  unfold rotr
  apply BitVec.eq_of_getLsbD_eq
  intro i hi
  simp only [BitVec.getLsbD_xor, BitVec.getLsbD_or, BitVec.getLsbD_ushiftRight, BitVec.getLsbD_shiftLeft, hi, decide_true, Bool.true_and]
  by_cases hk : i < 32 - n
  · simp [hk]
  · have : x.getLsbD (n + i) = false := BitVec.getLsbD_of_ge _ _ (by omega)
    simp [this]
def three (x : W32) (a b c : Nat) : W32 := 0 ^^^ rotr x a ^^^ rotr x b ^^^ rotr x c
theorem zero_xorW (x : W32) : 0 ^^^ x = x := BitVec.zero_xor
theorem three_S0 (x : W32) : three x 2 13 22 = bS0 x := by unfold three bS0; rw [zero_xorW]
theorem three_S1 (x : W32) : three x 6 11 25 = bS1 x := by unfold three bS1; rw [zero_xorW]
theorem two_s0 (x : W32) : three x 7 18 3 ^^^ (x <<< 29) = sS0 x := by
  unfold three sS0; rw [zero_xorW, BitVec.xor_assoc, rotr_lost x 3 (by omega) (by omega)]
theorem two_s1 (x : W32) : three x 17 19 10 ^^^ (x <<< 22) = sS1 x := by
  unfold three sS1; rw [zero_xorW, BitVec.xor_assoc, rotr_lost x 10 (by omega) (by omega)]

/-- The word that four bytes tell, the highest first. -/
def wd (bs : List UInt8) : W32 := BitVec.ofNat 32 (num (bs.take 4))
/-- A block's first words. -/
def first16 (b : List UInt8) : Nat → List W32
  | 0 => []
  | n + 1 => first16 b n ++ [wd (b.drop (4 * n))]
theorem first16_length (b : List UInt8) : ∀ n, (first16 b n).length = n
  | 0 => rfl
  | n + 1 => by simp [first16, first16_length b n]
/-- One word more, of those ahead of it. -/
def nextW (l : List W32) (n : Nat) : W32 := l.getD (n - 16) 0 + sS0 (l.getD (n - 15) 0) + l.getD (n - 7) 0 + sS1 (l.getD (n - 2) 0)
def wordsN (b : List UInt8) : Nat → List W32
  | 0 => first16 b 16
  | n + 1 => wordsN b n ++ [nextW (wordsN b n) (16 + n)]
theorem wordsN_length (b : List UInt8) : ∀ n, (wordsN b n).length = 16 + n
  | 0 => first16_length b 16
  | n + 1 => by simp [wordsN, wordsN_length b n]; omega
/-- A block's sixty-four words. -/
@[irreducible] def words64 (b : List UInt8) : List W32 := wordsN b 48
theorem words64_eq (b : List UInt8) : words64 b = wordsN b 48 := by unfold words64; rfl
theorem words64_length (b : List UInt8) : (words64 b).length = 64 := by rw [words64_eq]; exact wordsN_length b 48

/-- Eight words. -/
structure St where
  a : W32
  b : W32
  c : W32
  d : W32
  e : W32
  f : W32
  g : W32
  h : W32
def St.l (s : St) : List W32 := [s.a, s.b, s.c, s.d, s.e, s.f, s.g, s.h]
def ks : List W32 := [0x428a2f98, 0x71374491, 0xb5c0fbcf, 0xe9b5dba5, 0x3956c25b, 0x59f111f1, 0x923f82a4, 0xab1c5ed5, 0xd807aa98, 0x12835b01, 0x243185be, 0x550c7dc3, 0x72be5d74, 0x80deb1fe, 0x9bdc06a7, 0xc19bf174, 0xe49b69c1, 0xefbe4786, 0x0fc19dc6, 0x240ca1cc, 0x2de92c6f, 0x4a7484aa, 0x5cb0a9dc, 0x76f988da, 0x983e5152, 0xa831c66d, 0xb00327c8, 0xbf597fc7, 0xc6e00bf3, 0xd5a79147, 0x06ca6351, 0x14292967, 0x27b70a85, 0x2e1b2138, 0x4d2c6dfc, 0x53380d13, 0x650a7354, 0x766a0abb, 0x81c2c92e, 0x92722c85, 0xa2bfe8a1, 0xa81a664b, 0xc24b8b70, 0xc76c51a3, 0xd192e819, 0xd6990624, 0xf40e3585, 0x106aa070, 0x19a4c116, 0x1e376c08, 0x2748774c, 0x34b0bcb5, 0x391c0cb3, 0x4ed8aa4a, 0x5b9cca4f, 0x682e6ff3, 0x748f82ee, 0x78a5636f, 0x84c87814, 0x8cc70208, 0x90befffa, 0xa4506ceb, 0xbef9a3f7, 0xc67178f2]
def st0 : St := ⟨0x6a09e667, 0xbb67ae85, 0x3c6ef372, 0xa54ff53a, 0x510e527f, 0x9b05688c, 0x1f83d9ab, 0x5be0cd19⟩
theorem ks_length : ks.length = 64 := rfl
/-- One round, by a round's word and a block's. -/
def rndX (k w : W32) (s : St) : W32 := s.h + bS1 s.e + chW s.e s.f s.g + k + w
def rndY (s : St) : W32 := bS0 s.a + majW s.a s.b s.c
def rnd (k w : W32) (s : St) : St := ⟨rndX k w s + rndY s, s.a, s.b, s.c, s.d + rndX k w s, s.e, s.f, s.g⟩
/-- The first n rounds. -/
def rnds (ws : List W32) (s : St) : Nat → St
  | 0 => s
  | n + 1 => rnd (ks.getD n 0) (ws.getD n 0) (rnds ws s n)
def addSt (s t : St) : St := ⟨s.a + t.a, s.b + t.b, s.c + t.c, s.d + t.d, s.e + t.e, s.f + t.f, s.g + t.g, s.h + t.h⟩
/-- Eight words behind a block. -/
@[irreducible] def mixB (s : St) (b : List UInt8) : St := addSt s (rnds (words64 b) s 64)
theorem mixB_eq (s : St) (b : List UInt8) : mixB s b = addSt s (rnds (words64 b) s 64) := by unfold mixB; rfl

/-- Behind n whole blocks. -/
def blocks : Nat → St → List UInt8 → St
  | 0, s, _ => s
  | n + 1, s, l => blocks n (mixB s (l.take 64)) (l.drop 64)
/-- Behind all whole blocks of a text. -/
def run (s : St) (l : List UInt8) : St := blocks (l.length / 64) s l
theorem blocks_take : ∀ (n : Nat) (s : St) (l r : List UInt8), 64 * n ≤ l.length → blocks n s (l ++ r) = blocks n s l
  | 0, _, _, _, _ => rfl
  | n + 1, s, l, r, h => by
    rw [blocks, blocks, List.take_append_of_le_length (by omega), List.drop_append_of_le_length (by omega), blocks_take n _ _ r (by rw [List.length_drop]; omega)]
theorem blocks_snoc : ∀ (n : Nat) (s : St) (l : List UInt8), blocks (n + 1) s l = mixB (blocks n s l) ((l.drop (64 * n)).take 64)
  | 0, s, l => by simp [blocks]
  | n + 1, s, l => by
    rw [blocks, blocks_snoc n, List.drop_drop, blocks]
    rw [show 64 + 64 * n = 64 * (n + 1) by omega]
/-- Fewer bytes than a block needs change nothing. -/
theorem run_more (s : St) (l r : List UInt8) (h : l.length % 64 + r.length < 64) : run s (l ++ r) = run s l := by
  unfold run
  have e : (l ++ r).length / 64 = l.length / 64 := by rw [List.length_append]; omega
  rw [e, blocks_take _ _ _ _ (by omega)]
/-- As many as it needs make one block more. -/
theorem run_full (s : St) (l r : List UInt8) (h : l.length % 64 + r.length = 64) : run s (l ++ r) = mixB (run s l) (l.drop (64 * (l.length / 64)) ++ r) := by
  unfold run
  have e : (l ++ r).length / 64 = l.length / 64 + 1 := by rw [List.length_append]; omega
  rw [e, blocks_snoc, blocks_take _ _ _ _ (by omega)]
  congr 1
  rw [List.drop_append_of_le_length (by omega)]
  exact List.take_of_length_le (by rw [List.length_append, List.length_drop]; omega)

/-- How many bytes stand behind a text of n bytes: the one that ends it, noughts, the length. -/
def fillN (n : Nat) : Nat := 64 - (n + 8) % 64
def tail8 (n : Nat) : List UInt8 := (128 :: List.replicate (fillN n - 1) 0) ++ be 8 (8 * n)
theorem fillN_pos (n : Nat) : 1 ≤ fillN n ∧ fillN n ≤ 64 := by unfold fillN; omega
theorem tail8_length (n : Nat) : (tail8 n).length = fillN n + 8 := by
  have := fillN_pos n
  simp [tail8, be_length]; omega
def padded (l : List UInt8) : List UInt8 := l ++ tail8 l.length
theorem padded_length (l : List UInt8) : (padded l).length % 64 = 0 := by
  have := fillN_pos l.length
  rw [padded, List.length_append, tail8_length]; unfold fillN; omega
/-- Eight words as bytes. -/
def stBytes (s : St) : List UInt8 := s.l.flatMap fun x => be 4 x.toNat
/-- The digest. -/
@[irreducible] def shaSum (l : List UInt8) : List UInt8 := stBytes (run st0 (padded l))
theorem stBytes_length (s : St) : (stBytes s).length = 32 := by simp [stBytes, St.l, be_length]
theorem shaSum_eq (l : List UInt8) : shaSum l = stBytes (run st0 (padded l)) := by unfold shaSum; rfl
theorem shaSum_length (l : List UInt8) : (shaSum l).length = 32 := by rw [shaSum_eq]; exact stBytes_length _
end Go.Proofs.YtibcjbelcplpjaaDoor
