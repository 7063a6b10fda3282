/-
  Texts of mine, one behind the other, in one file. No statement of the seed is proved here.
-/
import Derived.WalkKit
import Derived.ProofKit
import Derived.Below
import Derived.Lib.Hide
import Derived.Maps.AppendAt
import Derived.Laws.OwnMore
import Derived.Laws.Rows
import Derived.Deep.Draws
import Derived.OwnWalk
import Derived.WalkLawsBesides
import Derived.Test.YtmhigipljplgdaaDoorChecked
import Derived.Deep.MidRow
import Derived.Deep.WholeRow
import Derived.Laws.CopyOwn
import Derived.Great.Walk
import Derived.Laws.BitsAllLaws
import Derived.Laws.IdiomCopy
import Derived.StillTailTactics
import Derived.OpenShut
import Derived.ShutString
import Derived.ChangeOld
import Derived.Deep.Slices
import Derived.Deep.Fields
import Derived.Deep.RegionHeld3
import Derived.Deep.RegionLaw
import Derived.Outline
import Derived.Deep.QuietTactic
import Derived.BigQuiet
import Derived.RegionTactic
/-
  Plain mathematics of layer 1: bytes of numbers, small numbers. Nothing of the program here.
-/
namespace Go.Proofs.YtmhigipljplgdaaDoor

theorem snoc_ind {α : Type} {P : List α → Prop} (h0 : P []) (hs : ∀ l b, P l → P (l ++ [b])) (l : List α) : P l := by
  have h : ∀ r : List α, P r.reverse := by
    intro r
    induction r with
    | nil => exact h0
    | cons b r ih => rw [List.reverse_cons]; exact hs _ _ ih
  have := h l.reverse
  rwa [List.reverse_reverse] at this

/-- The lowest n bytes of x, the highest first. -/
def be : Nat → Nat → List UInt8
  | 0, _ => []
  | n + 1, x => be n (x / 256) ++ [UInt8.ofNat x]
theorem be_length : ∀ n x, (be n x).length = n
  | 0, _ => rfl
  | n + 1, x => by simp [be, be_length n]
/-- The number that bytes tell, the highest first. -/
def num (bs : List UInt8) : Nat := bs.foldl (fun x b => x * 256 + b.toNat) 0
theorem num_snoc (bs : List UInt8) (b : UInt8) : num (bs ++ [b]) = num bs * 256 + b.toNat := by simp [num]
theorem take_step {α : Type} (l : List α) (k : Nat) (y : α) (h : l[k]? = some y) : l.take (k + 1) = l.take k ++ [y] := by
  obtain ⟨hk, e⟩ := List.getElem?_eq_some_iff.1 h
  rw [List.take_succ_eq_append_getElem hk, e]
theorem ofNat_toNat (x : Nat) : (UInt8.ofNat x).toNat = x % 256 := by simp
theorem num_be : ∀ n x, x < 256 ^ n → num (be n x) = x
  | 0, x, h => by simp at h; subst h; rfl
  | n + 1, x, h => by
    rw [be, num_snoc, num_be n (x / 256) (by rw [Nat.pow_succ] at h; omega), ofNat_toNat]
    omega
theorem num_lt (bs : List UInt8) : num bs < 256 ^ bs.length := by
  refine snoc_ind (P := fun bs => num bs < 256 ^ bs.length) (by simp [num]) (fun l b ih => ?_) bs
  · show num (l ++ [b]) < 256 ^ (l ++ [b]).length
    rw [num_snoc, List.length_append, List.length_singleton, Nat.pow_succ]
    have := b.toNat_lt
    omega
theorem be_num (bs : List UInt8) : be bs.length (num bs) = bs := by
  refine snoc_ind (P := fun bs => be bs.length (num bs) = bs) rfl (fun l b ih => ?_) bs
  · show be (l ++ [b]).length (num (l ++ [b])) = l ++ [b]
    rw [List.length_append, List.length_singleton, be, num_snoc]
    have hb := b.toNat_lt
    have e : (num l * 256 + b.toNat) / 256 = num l := by omega
    have e2 : UInt8.ofNat (num l * 256 + b.toNat) = b := by
      apply UInt8.toNat_inj.1
      rw [ofNat_toNat]
      omega
    rw [e, e2, ih]

/-- How many bytes a number below 2^64 needs, at least one. -/
def wid (x : Nat) : Nat :=
  if x < 256 then 1 else if x < 65536 then 2 else if x < 16777216 then 3 else if x < 4294967296 then 4 else if x < 1099511627776 then 5 else if x < 281474976710656 then 6 else if x < 72057594037927936 then 7 else 8
theorem wid_pos (x : Nat) : 1 ≤ wid x ∧ wid x ≤ 8 := by unfold wid; split <;> (try split) <;> (try split) <;> (try split) <;> (try split) <;> (try split) <;> (try split) <;> omega
theorem wid_small (x : Nat) (h : x < 4294967296) : wid x ≤ 4 := by unfold wid; split <;> (try split) <;> (try split) <;> (try split) <;> omega
theorem wid_lt (x : Nat) (h : x < 18446744073709551616) : x < 256 ^ wid x := by
  unfold wid; split <;> (try split) <;> (try split) <;> (try split) <;> (try split) <;> (try split) <;> (try split) <;> simp <;> omega
theorem wid_le (x n : Nat) (h0 : 1 ≤ n) (h8 : n ≤ 8) (hx : x < 18446744073709551616) : wid x ≤ n ↔ x < 256 ^ n := by
  have h : n = 1 ∨ n = 2 ∨ n = 3 ∨ n = 4 ∨ n = 5 ∨ n = 6 ∨ n = 7 ∨ n = 8 := by omega
  unfold wid
  rcases h with rfl | rfl | rfl | rfl | rfl | rfl | rfl | rfl <;> (split <;> (try split) <;> (try split) <;> (try split) <;> (try split) <;> (try split) <;> (try split) <;> simp <;> omega)
theorem wid_div (z : Nat) (h : 255 < z) (h2 : z < 18446744073709551616) : wid (z / 256) + 1 = wid z := by
  have e1 : (z / 256 < 256) = (z < 65536) := by simp; omega
  have e2 : (z / 256 < 65536) = (z < 16777216) := by simp; omega
  have e3 : (z / 256 < 16777216) = (z < 4294967296) := by simp; omega
  have e4 : (z / 256 < 4294967296) = (z < 1099511627776) := by simp; omega
  have e5 : (z / 256 < 1099511627776) = (z < 281474976710656) := by simp; omega
  have e6 : (z / 256 < 281474976710656) = (z < 72057594037927936) := by simp; omega
  unfold wid
  simp only [e1, e2, e3, e4, e5, e6]
  rw [if_neg (by omega : ¬ z < 256)]
  split <;> (try split) <;> (try split) <;> (try split) <;> (try split) <;> (try split) <;> (try split) <;> omega
/-- How many bytes follow a small number's first one. -/
def fol (x : Nat) : Nat := if x ≤ 250 then 0 else wid x
/-- A small number's bytes. -/
def sm (x : Nat) : List UInt8 := if x ≤ 250 then [UInt8.ofNat x] else UInt8.ofNat (250 + wid x) :: be (wid x) x
theorem sm_length (x : Nat) : (sm x).length = 1 + fol x := by unfold sm fol; split <;> simp [be_length] <;> omega

/-- A small number that bytes begin with: the number, how many bytes tell it, the error (then both are 0). -/
def tsm (bs : List UInt8) (most : Nat) : Nat × Nat × Nat :=
  match bs with
  | [] => (0, 0, 1)
  | b :: rest =>
    if b.toNat = 255 then (0, 0, 2)
    else if b.toNat ≤ 250 then (if most < b.toNat then (0, 0, 3) else (b.toNat, 1, 0))
    else if rest.length < b.toNat - 250 then (0, 0, 1)
    else if fol (num (rest.take (b.toNat - 250))) ≠ b.toNat - 250 then (0, 0, 2)
    else if most < num (rest.take (b.toNat - 250)) then (0, 0, 3)
    else (num (rest.take (b.toNat - 250)), 1 + (b.toNat - 250), 0)
/-- A number of n bytes that bytes begin with. -/
def tnum (bs : List UInt8) (n : Int) : Nat × Nat × Nat :=
  if n < 1 ∨ 8 < n then (0, 0, 14) else if bs.length < n.toNat then (0, 0, 1) else (num (bs.take n.toNat), n.toNat, 0)
/-- A text that bytes begin with. -/
def ttext (bs : List UInt8) (most : Int) : List UInt8 × Nat × Nat :=
  if (tsm bs (max most 0).toNat).2.2 ≠ 0 then ([], 0, (tsm bs (max most 0).toNat).2.2)
  else if bs.length - (tsm bs (max most 0).toNat).2.1 < (tsm bs (max most 0).toNat).1 then ([], 0, 1)
  else ((bs.drop (tsm bs (max most 0).toNat).2.1).take (tsm bs (max most 0).toNat).1, (tsm bs (max most 0).toNat).2.1 + (tsm bs (max most 0).toNat).1, 0)
/-- What is told of a small number is below 2^32, and its bytes are there. -/
theorem tsm_le (bs : List UInt8) (most : Nat) : (tsm bs most).1 < 4294967296 ∧ (tsm bs most).2.1 ≤ bs.length ∧ (tsm bs most).2.1 ≤ 5 ∧ (tsm bs most).2.2 ≤ 3 ∧ ((tsm bs most).2.2 ≠ 0 → tsm bs most = (0, 0, (tsm bs most).2.2)) := by
  unfold tsm
  split
  · simp
  · rename_i b rest
    have hb := b.toNat_lt
    split
    · simp
    · split
      · split <;> simp; omega
      · split
        · simp
        · split
          · simp
          · split
            · simp
            · rename_i h1 _ h3 _ _
              have hlen : (rest.take (b.toNat - 250)).length = b.toNat - 250 := by rw [List.length_take]; omega
              have hN := num_lt (rest.take (b.toNat - 250))
              have h2 : (256 : Nat) ^ (rest.take (b.toNat - 250)).length ≤ 256 ^ 4 := Nat.pow_le_pow_right (by omega) (by omega)
              simp
              omega
end Go.Proofs.YtmhigipljplgdaaDoor
/-
  Plain mathematics of layer 2: words of 32 bits, a block's words, its rounds, whole blocks, what ends a text. Nothing of the program here.
-/
namespace Go.Proofs.YtmhigipljplgdaaDoor

abbrev W32 := BitVec 32
/-- A word as the number that stands for it. -/
@[irreducible] def wv (x : W32) : Int := (x.toNat : Int)
theorem wv_eq (x : W32) : wv x = (x.toNat : Int) := by unfold wv; rfl
theorem wv_nonneg (x : W32) : 0 ≤ wv x := by rw [wv_eq]; omega
theorem wv_lt (x : W32) : wv x < 4294967296 := by rw [wv_eq]; have := x.isLt; omega
theorem wv_inj {x y : W32} (h : wv x = wv y) : x = y := by
  rw [wv_eq, wv_eq] at h
  exact BitVec.eq_of_toNat_eq (by omega)
theorem wv_ofNat (n : Nat) (h : n < 4294967296) : wv (BitVec.ofNat 32 n) = (n : Int) := by
  rw [wv_eq, BitVec.toNat_ofNat]; omega
theorem wv_add (x y : W32) : (wv x + wv y) % 4294967296 = wv (x + y) := by
  rw [wv_eq, wv_eq, wv_eq, BitVec.toNat_add]; omega

def rotr (x : W32) (n : Nat) : W32 := (x >>> n) ||| (x <<< (32 - n))
def bS0 (x : W32) : W32 := rotr x 2 ^^^ rotr x 13 ^^^ rotr x 22
def bS1 (x : W32) : W32 := rotr x 6 ^^^ rotr x 11 ^^^ rotr x 25
def sS0 (x : W32) : W32 := rotr x 7 ^^^ rotr x 18 ^^^ (x >>> 3)
def sS1 (x : W32) : W32 := rotr x 17 ^^^ rotr x 19 ^^^ (x >>> 10)
def chW (e f g : W32) : W32 := (e &&& f) ^^^ (~~~e &&& g)
def majW (a b c : W32) : W32 := (a &&& b) ^^^ (a &&& c) ^^^ (b &&& c)

/-- The same, as the document's own answer says them. -/
theorem chW_or (e f g : W32) : (e &&& f) ||| (~~~e &&& g) = chW e f g := by
  unfold chW
  apply BitVec.eq_of_getLsbD_eq
  intro i hi
  simp only [BitVec.getLsbD_or, BitVec.getLsbD_and, BitVec.getLsbD_xor, BitVec.getLsbD_not, hi, decide_true, Bool.true_and]
  cases e.getLsbD i <;> cases f.getLsbD i <;> cases g.getLsbD i <;> rfl
theorem majW_or (a b c : W32) : (a &&& b) ||| (a &&& c) ||| (b &&& c) = majW a b c := by
  unfold majW
  apply BitVec.eq_of_getLsbD_eq
  intro i hi
  simp only [BitVec.getLsbD_or, BitVec.getLsbD_and, BitVec.getLsbD_xor]
  cases a.getLsbD i <;> cases b.getLsbD i <;> cases c.getLsbD i <;> rfl
theorem rotr_lost (x : W32) (n : Nat) (h1 : 1 ≤ n) (h : n < 32) : rotr x n ^^^ (x <<< (32 - n)) = x >>> n := by
  unfold rotr
  apply BitVec.eq_of_getLsbD_eq
  intro i hi
  simp only [BitVec.getLsbD_xor, BitVec.getLsbD_or, BitVec.getLsbD_ushiftRight, BitVec.getLsbD_shiftLeft, hi, decide_true, Bool.true_and]
  by_cases hk : i < 32 - n
  · simp [hk]
  · have : x.getLsbD (n + i) = false := BitVec.getLsbD_of_ge _ _ (by omega)
    simp [this]
def three (x : W32) (a b c : Nat) : W32 := 0 ^^^ rotr x a ^^^ rotr x b ^^^ rotr x c
theorem zero_xorW (x : W32) : 0 ^^^ x = x := BitVec.zero_xor
theorem three_S0 (x : W32) : three x 2 13 22 = bS0 x := by unfold three bS0; rw [zero_xorW]
theorem three_S1 (x : W32) : three x 6 11 25 = bS1 x := by unfold three bS1; rw [zero_xorW]
theorem two_s0 (x : W32) : three x 7 18 3 ^^^ (x <<< 29) = sS0 x := by
  unfold three sS0; rw [zero_xorW, BitVec.xor_assoc, rotr_lost x 3 (by omega) (by omega)]
theorem two_s1 (x : W32) : three x 17 19 10 ^^^ (x <<< 22) = sS1 x := by
  unfold three sS1; rw [zero_xorW, BitVec.xor_assoc, rotr_lost x 10 (by omega) (by omega)]

/-- The word that four bytes tell, the highest first. -/
def wd (bs : List UInt8) : W32 := BitVec.ofNat 32 (num (bs.take 4))
/-- A block's first words. -/
def first16 (b : List UInt8) : Nat → List W32
  | 0 => []
  | n + 1 => first16 b n ++ [wd (b.drop (4 * n))]
theorem first16_length (b : List UInt8) : ∀ n, (first16 b n).length = n
  | 0 => rfl
  | n + 1 => by simp [first16, first16_length b n]
/-- One word more, of those ahead of it. -/
def nextW (l : List W32) (n : Nat) : W32 := l.getD (n - 16) 0 + sS0 (l.getD (n - 15) 0) + l.getD (n - 7) 0 + sS1 (l.getD (n - 2) 0)
def wordsN (b : List UInt8) : Nat → List W32
  | 0 => first16 b 16
  | n + 1 => wordsN b n ++ [nextW (wordsN b n) (16 + n)]
theorem wordsN_length (b : List UInt8) : ∀ n, (wordsN b n).length = 16 + n
  | 0 => first16_length b 16
  | n + 1 => by simp [wordsN, wordsN_length b n]; omega
/-- A block's sixty-four words. -/
@[irreducible] def words64 (b : List UInt8) : List W32 := wordsN b 48
theorem words64_eq (b : List UInt8) : words64 b = wordsN b 48 := by unfold words64; rfl
theorem words64_length (b : List UInt8) : (words64 b).length = 64 := by rw [words64_eq]; exact wordsN_length b 48

/-- Eight words. -/
structure St where
  a : W32
  b : W32
  c : W32
  d : W32
  e : W32
  f : W32
  g : W32
  h : W32
def St.l (s : St) : List W32 := [s.a, s.b, s.c, s.d, s.e, s.f, s.g, s.h]
def ks : List W32 := [0x428a2f98, 0x71374491, 0xb5c0fbcf, 0xe9b5dba5, 0x3956c25b, 0x59f111f1, 0x923f82a4, 0xab1c5ed5, 0xd807aa98, 0x12835b01, 0x243185be, 0x550c7dc3, 0x72be5d74, 0x80deb1fe, 0x9bdc06a7, 0xc19bf174, 0xe49b69c1, 0xefbe4786, 0x0fc19dc6, 0x240ca1cc, 0x2de92c6f, 0x4a7484aa, 0x5cb0a9dc, 0x76f988da, 0x983e5152, 0xa831c66d, 0xb00327c8, 0xbf597fc7, 0xc6e00bf3, 0xd5a79147, 0x06ca6351, 0x14292967, 0x27b70a85, 0x2e1b2138, 0x4d2c6dfc, 0x53380d13, 0x650a7354, 0x766a0abb, 0x81c2c92e, 0x92722c85, 0xa2bfe8a1, 0xa81a664b, 0xc24b8b70, 0xc76c51a3, 0xd192e819, 0xd6990624, 0xf40e3585, 0x106aa070, 0x19a4c116, 0x1e376c08, 0x2748774c, 0x34b0bcb5, 0x391c0cb3, 0x4ed8aa4a, 0x5b9cca4f, 0x682e6ff3, 0x748f82ee, 0x78a5636f, 0x84c87814, 0x8cc70208, 0x90befffa, 0xa4506ceb, 0xbef9a3f7, 0xc67178f2]
def st0 : St := ⟨0x6a09e667, 0xbb67ae85, 0x3c6ef372, 0xa54ff53a, 0x510e527f, 0x9b05688c, 0x1f83d9ab, 0x5be0cd19⟩
theorem ks_length : ks.length = 64 := rfl
/-- One round, by a round's word and a block's. -/
def rndX (k w : W32) (s : St) : W32 := s.h + bS1 s.e + chW s.e s.f s.g + k + w
def rndY (s : St) : W32 := bS0 s.a + majW s.a s.b s.c
def rnd (k w : W32) (s : St) : St := ⟨rndX k w s + rndY s, s.a, s.b, s.c, s.d + rndX k w s, s.e, s.f, s.g⟩
/-- The first n rounds. -/
def rnds (ws : List W32) (s : St) : Nat → St
  | 0 => s
  | n + 1 => rnd (ks.getD n 0) (ws.getD n 0) (rnds ws s n)
def addSt (s t : St) : St := ⟨s.a + t.a, s.b + t.b, s.c + t.c, s.d + t.d, s.e + t.e, s.f + t.f, s.g + t.g, s.h + t.h⟩
/-- Eight words behind a block. -/
@[irreducible] def mixB (s : St) (b : List UInt8) : St := addSt s (rnds (words64 b) s 64)
theorem mixB_eq (s : St) (b : List UInt8) : mixB s b = addSt s (rnds (words64 b) s 64) := by unfold mixB; rfl

/-- Behind n whole blocks. -/
def blocks : Nat → St → List UInt8 → St
  | 0, s, _ => s
  | n + 1, s, l => blocks n (mixB s (l.take 64)) (l.drop 64)
/-- Behind all whole blocks of a text. -/
def run (s : St) (l : List UInt8) : St := blocks (l.length / 64) s l
theorem blocks_take : ∀ (n : Nat) (s : St) (l r : List UInt8), 64 * n ≤ l.length → blocks n s (l ++ r) = blocks n s l
  | 0, _, _, _, _ => rfl
  | n + 1, s, l, r, h => by
    rw [blocks, blocks, List.take_append_of_le_length (by omega), List.drop_append_of_le_length (by omega), blocks_take n _ _ r (by rw [List.length_drop]; omega)]
theorem blocks_snoc : ∀ (n : Nat) (s : St) (l : List UInt8), blocks (n + 1) s l = mixB (blocks n s l) ((l.drop (64 * n)).take 64)
  | 0, s, l => by simp [blocks]
  | n + 1, s, l => by
    rw [blocks, blocks_snoc n, List.drop_drop, blocks]
    rw [show 64 + 64 * n = 64 * (n + 1) by omega]
/-- Fewer bytes than a block needs change nothing. -/
theorem run_more (s : St) (l r : List UInt8) (h : l.length % 64 + r.length < 64) : run s (l ++ r) = run s l := by
  unfold run
  have e : (l ++ r).length / 64 = l.length / 64 := by rw [List.length_append]; omega
  rw [e, blocks_take _ _ _ _ (by omega)]
/-- As many as it needs make one block more. -/
theorem run_full (s : St) (l r : List UInt8) (h : l.length % 64 + r.length = 64) : run s (l ++ r) = mixB (run s l) (l.drop (64 * (l.length / 64)) ++ r) := by
  unfold run
  have e : (l ++ r).length / 64 = l.length / 64 + 1 := by rw [List.length_append]; omega
  rw [e, blocks_snoc, blocks_take _ _ _ _ (by omega)]
  congr 1
  rw [List.drop_append_of_le_length (by omega)]
  exact List.take_of_length_le (by rw [List.length_append, List.length_drop]; omega)

/-- How many bytes stand behind a text of n bytes: the one that ends it, noughts, the length. -/
def fillN (n : Nat) : Nat := 64 - (n + 8) % 64
def tail8 (n : Nat) : List UInt8 := (128 :: List.replicate (fillN n - 1) 0) ++ be 8 (8 * n)
theorem fillN_pos (n : Nat) : 1 ≤ fillN n ∧ fillN n ≤ 64 := by unfold fillN; omega
theorem tail8_length (n : Nat) : (tail8 n).length = fillN n + 8 := by
  have := fillN_pos n
  simp [tail8, be_length]; omega
def padded (l : List UInt8) : List UInt8 := l ++ tail8 l.length
theorem padded_length (l : List UInt8) : (padded l).length % 64 = 0 := by
  have := fillN_pos l.length
  rw [padded, List.length_append, tail8_length]; unfold fillN; omega
/-- Eight words as bytes. -/
def stBytes (s : St) : List UInt8 := s.l.flatMap fun x => be 4 x.toNat
/-- The digest. -/
@[irreducible] def shaSum (l : List UInt8) : List UInt8 := stBytes (run st0 (padded l))
theorem stBytes_length (s : St) : (stBytes s).length = 32 := by simp [stBytes, St.l, be_length]
theorem shaSum_eq (l : List UInt8) : shaSum l = stBytes (run st0 (padded l)) := by unfold shaSum; rfl
theorem shaSum_length (l : List UInt8) : (shaSum l).length = 32 := by rw [shaSum_eq]; exact stBytes_length _
end Go.Proofs.YtmhigipljplgdaaDoor
/-
  Helper words on memory for this seat's walks: which old blocks a call may have turned ('Kept'), a byte slice that reads as a list ('RdB'), a byte row of the call's own ('OwB'). No statement of the seed is proved here.
-/
namespace Go.Proofs.YtmhigipljplgdaaDoor
open Go.RowKit

/-! ### which old blocks have turned -/
/-- All old blocks but those listed are as they were; the streams are; no block has gone. -/
structure Kept (S : List Nat) (w w' : World) : Prop where
  os : w'.os = w.os
  tape : w'.tape = w.tape
  output : w'.output = w.output
  size : w.heap.size ≤ w'.heap.size
  block : ∀ k, k < w.heap.size → k ∉ S → w'.heap[k]? = w.heap[k]?

section
variable {S T : List Nat} {a b c w w' : World}
theorem Kept.refl (S : List Nat) (w : World) : Kept S w w := ⟨rfl, rfl, rfl, Nat.le_refl _, fun _ _ _ => rfl⟩
theorem Kept.trans (h : Kept S a b) (k : Kept T b c) (hT : ∀ i, i ∈ T → i ∈ S ∨ a.heap.size ≤ i) : Kept S a c :=
  ⟨k.os.trans h.os, k.tape.trans h.tape, k.output.trans h.output, Nat.le_trans h.size k.size, fun i hi hn =>
    (k.block i (Nat.lt_of_lt_of_le hi h.size) (fun hm => by
      rcases hT i hm with g | g
      · exact hn g
      · omega)).trans (h.block i hi hn)⟩
theorem Kept.andThen (h : Kept S a b) (k : Kept [] b c) : Kept S a c := h.trans k (by simp)
theorem Kept.mono (h : Kept S a b) (hS : ∀ i, i ∈ S → i ∈ T ∨ a.heap.size ≤ i) : Kept T a b :=
  ⟨h.os, h.tape, h.output, h.size, fun i hi hn => h.block i hi (fun hm => by
    rcases hS i hm with g | g
    · exact hn g
    · omega)⟩
theorem Kept.drew (h : Kept S a b) : Kept S a b.drew := ⟨h.os, h.tape, h.output, h.size, h.block⟩
theorem Kept.drewN (h : Kept S a b) (n : Nat) : Kept S a (b.drewN n) := ⟨h.os, h.tape, h.output, h.size, h.block⟩
theorem Kept.alloc (h : Kept S a b) (o : Obj) : Kept S a (b.alloc o) :=
  h.trans (T := []) ⟨rfl, rfl, rfl, by simp, fun k hk _ => Below.heap_alloc _ _ _ hk⟩ (by simp)
theorem Kept.setCell (h : Kept S a b) {p : Addr} (hp : p.block ∈ S ∨ a.heap.size ≤ p.block) (u : Value) : Kept S a (b.setCell p u) :=
  h.trans (T := [p.block]) ⟨rfl, rfl, rfl, by simp [World.setCell], fun k _ hk => Below.heap_setCell _ _ _ _ (by simpa using hk)⟩ (by simpa using hp)
theorem Kept.grown (h : Kept S a b) {row : Option Nat} (hg : b.grownBy c row) (hr : ∀ k, row = some k → k ∈ S ∨ a.heap.size ≤ k) : Kept S a c :=
  h.trans (T := row.toList) ⟨hg.os, hg.tape, hg.output, hg.size, fun k hk hn => hg.block k hk (fun e => hn (by simp [← e]))⟩ (by
    intro i hi
    exact hr i (by simpa using hi))
theorem Kept.of_below (h : Below w.heap.size w w') : Kept [] w w' := ⟨h.os, h.tape, h.output, h.size, fun k hk _ => h.block k hk⟩
theorem Kept.of_below' (S : List Nat) (h : Below w.heap.size w w') : Kept S w w' := ⟨h.os, h.tape, h.output, h.size, fun k hk _ => h.block k hk⟩
theorem Kept.below (h : Kept S w w') {B : Nat} (hB : B ≤ w.heap.size) (hS : ∀ k, k ∈ S → B ≤ k) : Below B w w' :=
  ⟨h.os, h.tape, h.output, h.size, fun k hk => h.block k (by omega) (fun hm => by have := hS k hm; omega)⟩
theorem Kept.below0 (h : Kept [] w w') : Below w.heap.size w w' := h.below (Nat.le_refl _) (by simp)
theorem Kept.cell (h : Kept S w w') {p : Addr} (hp : p.block < w.heap.size) (hn : p.block ∉ S) : w'.cell? p = w.cell? p := World.cell?_of_block (w := w) (h.block p.block hp hn)
theorem Kept.frozen (h : Kept S w w') {p : Addr} (hp : p.block < w.heap.size) (hn : p.block ∉ S) : w'.frozen? p = w.frozen? p := World.frozen?_of_block (w := w) (h.block p.block hp hn)
theorem Kept.lt (h : Kept S w w') {k : Nat} (hk : k < w.heap.size) : k < w'.heap.size := Nat.lt_of_lt_of_le hk h.size
end

/-! ### bytes -/
/-- A byte's cell. -/
def bcell (b : UInt8) : Value := .int .u8 (b.toNat : Int)
/-- A text's cells. -/
def bvs (bs : List UInt8) : List Value := bs.map bcell
theorem bvs_length (bs : List UInt8) : (bvs bs).length = bs.length := by simp [bvs]
theorem bvs_append (a b : List UInt8) : bvs (a ++ b) = bvs a ++ bvs b := by simp [bvs]
theorem bvs_one (bs : List UInt8) : ∀ u ∈ bvs bs, u.oneCell' = true := by
  intro u hu
  simp only [bvs, List.mem_map] at hu
  obtain ⟨b, _, rfl⟩ := hu
  rfl
theorem bvs_get (bs : List UInt8) (j : Nat) (h : j < bs.length) : (bvs bs)[j]? = some (bcell bs[j]) := by simp [bvs, h]
theorem bvs_inj : ∀ (a b : List UInt8), bvs a = bvs b → a = b
  | [], [], _ => rfl
  | [], y :: ys, h => by simp [bvs] at h
  | x :: xs, [], h => by simp [bvs] at h
  | x :: xs, y :: ys, h => by
    simp only [bvs, List.map_cons, List.cons.injEq, bcell, Value.int.injEq, true_and, Int.natCast_inj] at h
    rw [UInt8.toNat_inj.1 h.1, bvs_inj xs ys (by simpa [bvs, bcell] using h.2)]

/-- The block that a slice's address lies in is none of these. -/
def Off (A : Option Addr) (S : List Nat) : Prop := ∀ a : Addr, A = some a → a.block ∉ S

/-- The slice '.slice A n c' reads as the bytes bs. -/
structure RdB (w : World) (A : Option Addr) (n c : Nat) (bs : List UInt8) : Prop where
  len : bs.length = n
  cap : n ≤ c
  most : c ≤ maxLen
  cells : 0 < n → ∃ b off, A = some ⟨b, off, none⟩ ∧ ∀ j, (h : j < bs.length) → w.cell? ⟨b, off + j, none⟩ = some (bcell bs[j])

section
variable {w w' : World} {A : Option Addr} {n c : Nat} {bs : List UInt8} {S : List Nat}
theorem RdB.nil (w : World) : RdB w none 0 0 [] := ⟨rfl, Nat.le_refl _, by simp [maxLen], fun h => absurd h (by omega)⟩
theorem RdB.empty (w : World) (A : Option Addr) (c : Nat) (hc : c ≤ maxLen) : RdB w A 0 c [] := ⟨rfl, Nat.zero_le _, hc, fun h => absurd h (by omega)⟩
theorem RdB.at_ (h : RdB w A n c bs) (hn : 0 < n) : ∃ b off, A = some ⟨b, off, none⟩ ∧ b < w.heap.size ∧ ∀ j, (hj : j < bs.length) → w.cell? ⟨b, off + j, none⟩ = some (bcell bs[j]) := by
  obtain ⟨b, off, e, hc⟩ := h.cells hn
  have hl := h.len
  have h0 := hc 0 (by omega)
  exact ⟨b, off, e, World.block_lt_of_cell? w _ h0, hc⟩
/-- One byte of it. -/
theorem RdB.byte (h : RdB w A n c bs) {k : Nat} (hk : k < n) : ∃ (b off : Nat) (y : UInt8), A = some ⟨b, off, none⟩ ∧ w.cell? ⟨b, off + k, none⟩ = some (.int .u8 (y.toNat : Int)) ∧ bs[k]? = some y ∧ y.toNat < 256 := by
  obtain ⟨b, off, e, hc⟩ := h.cells (by omega)
  have hl := h.len
  exact ⟨b, off, bs[k]'(by omega), e, hc k (by omega), List.getElem?_eq_getElem (by omega), UInt8.toNat_lt _⟩
theorem RdB.keep (h : RdB w A n c bs) (hk : ∀ b off, A = some ⟨b, off, none⟩ → b < w.heap.size → w'.heap[b]? = w.heap[b]?) : RdB w' A n c bs :=
  ⟨h.len, h.cap, h.most, fun hn => by
    obtain ⟨b, off, e, hb, hc⟩ := h.at_ hn
    exact ⟨b, off, e, fun j hj => (World.cell?_of_block (w := w) (hk b off e hb)).trans (hc j hj)⟩⟩
theorem RdB.kept (h : RdB w A n c bs) (hk : Kept S w w') (hS : Off A S) : RdB w' A n c bs :=
  h.keep fun b _ e hb => hk.block b hb (hS _ e)
theorem RdB.keptIf (h : RdB w A n c bs) (hk : Kept S w w') (hS : 0 < n → Off A S) : RdB w' A n c bs := by
  rcases Nat.eq_zero_or_pos n with h0 | h0
  · exact ⟨h.len, h.cap, h.most, fun hp => absurd hp (by omega)⟩
  · exact h.kept hk (hS h0)
theorem RdB.kept0 (h : RdB w A n c bs) (hk : Kept [] w w') : RdB w' A n c bs := h.kept hk (fun _ _ => by simp)
theorem RdB.alloc (h : RdB w A n c bs) (o : Obj) : RdB (w.alloc o) A n c bs := h.kept0 ((Kept.refl [] w).alloc o)
theorem RdB.drew (h : RdB w A n c bs) : RdB w.drew A n c bs := ⟨h.len, h.cap, h.most, h.cells⟩
theorem RdB.drewN (h : RdB w A n c bs) (k : Nat) : RdB (w.drewN k) A n c bs := ⟨h.len, h.cap, h.most, h.cells⟩
theorem RdB.one (w : World) (e : TypeId) (z : Int) (b : UInt8) (hz : z = (b.toNat : Int)) : RdB (w.alloc (.cells #[.int .u8 z] e)) (some ⟨w.heap.size, 0, none⟩) 1 1 [b] := by
  subst hz
  refine ⟨rfl, Nat.le_refl _, by simp [maxLen], fun _ => ⟨w.heap.size, 0, rfl, fun j hj => ?_⟩⟩
  have hj0 : j = 0 := by simpa using hj
  subst hj0
  rw [cell_of_row _ _ _ _ _ _ (heap_alloc_new w _)]
  rfl
theorem RdB.lit (w : World) (e : TypeId) (cs : Array Value) (n : Nat) (bs : List UInt8) (h : cs = (bvs bs).toArray) (hn : bs.length = n) (hm : n ≤ maxLen) : RdB (w.alloc (.cells cs e)) (some ⟨w.heap.size, 0, none⟩) n n bs := by
  subst h
  refine ⟨hn, Nat.le_refl _, hm, fun _ => ⟨w.heap.size, 0, rfl, fun j hj => ?_⟩⟩
  rw [cell_of_row _ _ _ _ _ _ (heap_alloc_new w _), Nat.zero_add]
  have := bvs_get bs j hj
  simpa using this
/-- As the library's append asks for it. -/
theorem RdB.news {a : Addr} (h : RdB w (some a) n c bs) : ∀ j u, (bvs bs)[j]? = some u → w.cell? (a.add j) = some u := by
  intro j u hu
  rcases Nat.lt_or_ge j bs.length with hj | hj
  · have hl := h.len
    obtain ⟨b, off, e, _, hc⟩ := h.at_ (by omega)
    injection e with e
    subst e
    rw [bvs_get bs j hj] at hu
    have := hc j hj
    simp only [Addr.add]
    split
    · rename_i h0
      subst h0
      rw [← hu]
      exact this
    · rw [← hu]
      exact this
  · rw [List.getElem?_eq_none (by rw [bvs_length]; exact hj)] at hu
    cases hu
end

/-- A byte slice value that owns its row, which begins at a block's head: one that can be appended to. 'F': the row's block, if any. -/
def OwB (e : TypeId) (w : World) (v : Value) (bs : List UInt8) : Prop := w.ownsRow 0 e 1 v bs.length (bvs bs)
section
variable {e : TypeId} {w w' : World} {v : Value} {bs : List UInt8} {S : List Nat}
theorem OwB.nil (e : TypeId) (w : World) : OwB e w (.slice none 0 0) [] := World.ownsRow_nil _ _ _ _
theorem OwB.form (h : OwB e w v bs) : ∃ A n c, v = .slice A n c ∧ RdB w A n c bs ∧ (∀ g, v.ownBlock = some g → g < w.heap.size) := by
  rcases h.2 with ⟨rfl, hn⟩ | ⟨g, cap, cur, rfl, _, hg, hnc, hcm, hcs, htake⟩
  · have : bs = [] := List.eq_nil_of_length_eq_zero hn
    subst this
    exact ⟨none, 0, 0, rfl, RdB.nil w, by simp [Value.ownBlock]⟩
  · have hlt : g < w.heap.size := (Array.getElem?_eq_some_iff.1 hg).1
    refine ⟨some ⟨g, 0, none⟩, _, cap, rfl, ⟨rfl, hnc, hcm, fun _ => ⟨g, 0, rfl, fun j hj => ?_⟩⟩, by simp [Value.ownBlock]; omega⟩
    rw [Nat.zero_add]
    rw [cell_of_row w g j cur e (0, 0) hg]
    have := congrArg (fun l : List Value => l[j]?) htake
    simp only [List.getElem?_take] at this
    rw [if_pos (by omega), bvs_get bs j hj] at this
    simpa using this
theorem OwB.keep (h : OwB e w v bs) (hk : ∀ g, v.ownBlock = some g → g < w.heap.size → w'.heap[g]? = w.heap[g]?) : OwB e w' v bs := by
  refine ⟨h.1, ?_⟩
  rcases h.2 with hn | ⟨g, cap, cur, rfl, hb, hg, rest⟩
  · exact .inl hn
  · exact .inr ⟨g, cap, cur, rfl, hb, (hk g rfl (Array.getElem?_eq_some_iff.1 hg).1).trans hg, rest⟩
theorem OwB.kept (h : OwB e w v bs) (hk : Kept S w w') (hS : ∀ g, v.ownBlock = some g → g ∉ S) : OwB e w' v bs := h.keep fun g hg hl => hk.block g hl (hS g hg)
theorem OwB.kept0 (h : OwB e w v bs) (hk : Kept [] w w') : OwB e w' v bs := h.kept hk (fun _ _ => by simp)
theorem OwB.alloc (h : OwB e w v bs) (o : Obj) : OwB e (w.alloc o) v bs := h.kept0 ((Kept.refl [] w).alloc o)
end

/-- Behind an append the row lies where it lay, or in a new block. -/
def Moved (w : World) (v v' : Value) : Prop := ∀ g, v'.ownBlock = some g → v.ownBlock = some g ∨ w.heap.size ≤ g
theorem Moved.refl (w : World) (v : Value) : Moved w v v := fun _ h => .inl h

section
variable {P : Program} {w : World}
/-- append(row, text...), whatever the text is (nil, empty, or not). -/
theorem run_append_bytes (t ty e : TypeId) (i : TypeInfo) (z : Value) (bytes : Nat) (ht : P.underlying t = some (.slice e)) (hi : P.info? e = some i) (hz : i.zero = some z)
    (hsize : i.size = 1) (hby : i.bytes = bytes) (hzs : z.cells.size = 1) {v : Value} {xs : List UInt8} (hown : OwB e w v xs)
    {A : Option Addr} {m c : Nat} {news : List UInt8} (hr : RdB w A m c news) (h63 : xs.length + m ≤ maxLen) (hbytes : (xs.length + m) * bytes ≤ 140737488355328) :
    ∃ v' w', (Builtin.append_ #[t, t] ty #[v, .slice A m c]).run P w = .ok v' w' ∧ OwB e w' v' (xs ++ news) ∧ Kept v.ownBlock.toList w w' ∧ Moved w v v' := by
  rcases A with _ | a
  · have hm : m = 0 := by
      rcases Nat.eq_zero_or_pos m with h0 | h0
      · exact h0
      · obtain ⟨b, off, e, _⟩ := hr.cells h0
        cases e
    subst hm
    have hn : news = [] := List.eq_nil_of_length_eq_zero hr.len
    subst hn
    refine ⟨v, w, ?_, by simpa using hown, Kept.refl _ _, Moved.refl _ _⟩
    rcases hown.2 with ⟨rfl, _⟩ | ⟨g, cap, cur, rfl, _, _, hnc, _⟩
    · simp [Builtin.append_, run_underlying ht, sizeOf, typeInfo, hi, Builtin.lenOf, Builtin.firstCells]
    · simp [Builtin.append_, run_underlying ht, sizeOf, typeInfo, hi, Builtin.lenOf, Builtin.firstCells, hnc, storeCells]
  · obtain ⟨v', w', hrun, h2, h3, _, h5⟩ := run_append_own_at (P := P) w 0 t ty e i z 1 bytes ht hi hz hsize hby hzs (by omega) v xs.length (bvs xs) hown a m c (bvs news)
      (by rw [bvs_length, hr.len]; omega) hr.news (bvs_one _) h63 hbytes (Nat.zero_le _)
    refine ⟨v', w', hrun, ?_, (Kept.refl _ _).grown h3 (by intro k hk; simp [hk]), ?_⟩
    · have := hr.len
      unfold OwB
      rw [bvs_append, List.length_append, this]
      exact h2
    · intro g hg
      rcases h5 with h5 | h5
      · exact .inl (by rw [← h5]; exact hg)
      · rw [h5] at hg
        injection hg with hg
        exact .inr (by omega)

theorem wpList_append_bytes {ops : Array Oper} {rest : List Oper} {o : Oper} {a : Act} {Q : Exit → Act → World → Prop} (hgd : o.guard = none) (s x : Operand) (t : TypeId)
    (ho : o.op = .call { callee := .builtin .append, args := #[s, x], argTypes := #[t, t] })
    (e : TypeId) (i : TypeInfo) (z : Value) (bytes : Nat) (ht : P.underlying t = some (.slice e)) (hi : P.info? e = some i) (hz : i.zero = some z)
    (hsize : i.size = 1) (hby : i.bytes = bytes) (hzs : z.cells.size = 1)
    (v : Value) (xs : List UInt8) (hs : a.eval s = v) (hown : OwB e w v xs)
    (A : Option Addr) (m c : Nat) (news : List UInt8) (hx : a.eval x = .slice A m c) (hr : RdB w A m c news)
    (h63 : xs.length + m ≤ maxLen) (hbytes : (xs.length + m) * bytes ≤ 140737488355328)
    (h : ∀ v' w', OwB e w' v' (xs ++ news) → Kept v.ownBlock.toList w w' → Moved w v v' → wpList P ops Q rest (a.put o.dst v') w') : wpList P ops Q (o :: rest) a w := by
  refine wpList_plain hgd fun K hK => ?_
  obtain ⟨v', w', hrun, h2, h3, h4⟩ := run_append_bytes (P := P) (w := w) t o.type e i z bytes ht hi hz hsize hby hzs hown hr h63 hbytes
  unfold Oper.wp execOp
  simp only [ho, resolve, invoke, builtin, Sem.run_bind, Sem.run_pure, Result.andThen_ok, List.map_toArray, List.map_cons, List.map_nil, hs, hx, hrun]
  exact hK _ _ (h v' w' h2 h3 h4)
end

section
variable {P : Program} {w : World}
theorem bvs_zeros (n : Nat) : bvs (List.replicate n 0) = List.replicate n (.int .u8 0) := by simp [bvs, bcell]
/-- make([]byte, n): n noughts. -/
theorem wpList_make_bytes {ops : Array Oper} {rest : List Oper} {o : Oper} {a : Act} {Q : Exit → Act → World → Prop}
    (hg : o.guard = none) (l c : Operand) (t : TypeId) (hop : o.op = Op.makeSlice t l c) (e : TypeId) (i : TypeInfo) (h1 : P.underlying t = some (.slice e)) (h2 : P.info? e = some i) (h3 : i.zero = some (.int .u8 0)) (h4 : i.size = 1) (h5 : i.bytes = 1)
    (kl kc : IntKind) (L C : Int) (n : Nat) (hl : a.eval l = .int kl L) (hc : a.eval c = .int kc C) (hL : L = (n : Int)) (hC : C = (n : Int)) (b2 : n ≤ 281474976710656)
    (hK : ∀ w', OwB e w' (.slice (some ⟨w.heap.size, 0, none⟩) n n) (List.replicate n 0) → Kept [] w w' → wpList P ops Q rest (a.put o.dst (.slice (some ⟨w.heap.size, 0, none⟩) n n)) w') : wpList P ops Q (o :: rest) a w := by
  refine wpList_make_full w hg l c t hop 0 e i (.int .u8 0) 1 h1 h2 h3 h4 kl kc L C n hl hc hL hC (by rw [h5]; omega) (by simp only [maxLen]; omega) (Nat.zero_le _) fun w' h g => hK w' ?_ ⟨g.os, g.tape, g.output, g.size, fun k hk _ => g.block k hk (by simp)⟩
  have hz : (Value.int .u8 0).cells = #[Value.int .u8 0] := rfl
  rw [hz, toList_madeCells_one, Nat.mul_one] at h
  unfold OwB
  rw [bvs_zeros, List.length_replicate]
  exact h
theorem OwB.set {e : TypeId} {g n c : Nat} {bs : List UInt8} (h : OwB e w (.slice (some ⟨g, 0, none⟩) n c) bs) (j : Nat) (b : UInt8) :
    OwB e (w.setCell ⟨g, j, none⟩ (bcell b)) (.slice (some ⟨g, 0, none⟩) n c) (bs.set j b) := by
  have hn : bs.length = n := by
    obtain ⟨A, m, d, e, hr, _⟩ := h.form
    injection e with e1 e2 e3
    rw [e2]; exact hr.len
  unfold OwB at h ⊢
  rw [hn] at h
  have := (h.stored j (bcell b)).1
  rw [List.length_set, hn]
  have hs : bvs (bs.set j b) = (bvs bs).set j (bcell b) := by simp [bvs, List.map_set]
  rw [hs]
  exact this
theorem OwB.fz {e : TypeId} {g n c : Nat} {bs : List UInt8} (h : OwB e w (.slice (some ⟨g, 0, none⟩) n c) bs) (j : Nat) : w.frozen? ⟨g, j, none⟩ = false := by
  have hn : bs.length = n := by
    obtain ⟨A, m, d, e, hr, _⟩ := h.form
    injection e with e1 e2 e3
    rw [e2]; exact hr.len
  unfold OwB at h
  rw [hn] at h
  exact h.frozenAt j
theorem OwB.rd {e : TypeId} {A : Option Addr} {n c : Nat} {bs : List UInt8} (h : OwB e w (.slice A n c) bs) : RdB w A n c bs := by
  obtain ⟨A', m, d, e, hr, _⟩ := h.form
  injection e with e1 e2 e3
  subst e1 e2 e3
  exact hr
theorem OwB.lt {e : TypeId} {g n c : Nat} {bs : List UInt8} (h : OwB e w (.slice (some ⟨g, 0, none⟩) n c) bs) : g < w.heap.size := by
  obtain ⟨A', m, d, e, hr, hb⟩ := h.form
  exact hb g rfl
end

/-! ### endings -/
theorem ret_int {k : IntKind} {a b : Int} (h : a = b) : Ending.returned (.int k a) = .returned (.int k b) := by rw [h]
theorem ret_bool {a b : Bool} (h : a = b) : Ending.returned (.bool a) = .returned (.bool b) := by rw [h]
end Go.Proofs.YtmhigipljplgdaaDoor
/-
  The byte type's row, and bytes that are told anew. No statement of the seed is proved here.
-/
namespace Go.Proofs.YtmhigipljplgdaaDoor
open Go.RowKit

theorem u8info : (Tryd.prog.info? 5).map (fun i => (i.zero, i.size, i.bytes)) = some (some (.int .u8 0), 1, 1) := by kernel_rfl
/-- A new byte slice that holds bs. -/
def CloneRet (bs : List UInt8) (w : World) (e : Ending) (w' : World) : Prop :=
  ∃ v, e = .returned v ∧ OwB 5 w' v bs ∧ Kept [] w w' ∧ ∀ g, v.ownBlock = some g → w.heap.size ≤ g
end Go.Proofs.YtmhigipljplgdaaDoor
/-
  Helper words on memory, going on: a block whose cells are known as a list ('Blk'): a variable that is an array or a struct, loaded and stored whole, and cell by cell. No statement of the seed is proved here.
-/
namespace Go.Proofs.YtmhigipljplgdaaDoor
open Go.RowKit

/-- The block g holds the cells cs, and all may be written. -/
def Blk (w : World) (g : Nat) (t : TypeId) (cs : List Value) : Prop := w.heap[g]? = some (.cells cs.toArray t (0, 0))
section
variable {w w' : World} {g : Nat} {t : TypeId} {cs : List Value} {S : List Nat}
theorem Blk.lt (h : Blk w g t cs) : g < w.heap.size := (Array.getElem?_eq_some_iff.1 h).1
theorem Blk.cell (h : Blk w g t cs) (j : Nat) : w.cell? ⟨g, j, none⟩ = cs[j]? := by rw [cell_of_row w g j _ _ _ h]; simp
theorem Blk.cellD (h : Blk w g t cs) (j : Nat) (hj : j < cs.length) : w.cell? ⟨g, j, none⟩ = some cs[j] := by rw [h.cell, List.getElem?_eq_getElem hj]
theorem Blk.frz (h : Blk w g t cs) (j : Nat) : w.frozen? ⟨g, j, none⟩ = false := frozen_of_row w g j _ _ h
theorem Blk.keep (h : Blk w g t cs) (hk : w'.heap[g]? = w.heap[g]?) : Blk w' g t cs := hk.trans h
theorem Blk.kept (h : Blk w g t cs) (hk : Kept S w w') (hS : g ∉ S) : Blk w' g t cs := h.keep (hk.block g h.lt hS)
theorem Blk.kept0 (h : Blk w g t cs) (hk : Kept [] w w') : Blk w' g t cs := h.kept hk (by simp)
theorem Blk.alloc (h : Blk w g t cs) (o : Obj) : Blk (w.alloc o) g t cs := h.kept0 ((Kept.refl [] w).alloc o)
theorem Blk.drewN (h : Blk w g t cs) (n : Nat) : Blk (w.drewN n) g t cs := h
theorem Blk.drew (h : Blk w g t cs) : Blk w.drew g t cs := h
theorem Blk.new (w : World) (t : TypeId) (cs : List Value) : Blk (w.alloc (.cells cs.toArray t)) w.heap.size t cs := heap_alloc_new w _
theorem Blk.set (h : Blk w g t cs) (j : Nat) (v : Value) : Blk (w.setCell ⟨g, j, none⟩ v) g t (cs.set j v) := by
  unfold Blk
  rw [heap_setCell_same w g j _ _ v h]
  simp
theorem Blk.set_other (h : Blk w g t cs) {b : Nat} (j : Nat) (v : Value) (hb : g ≠ b) : Blk (w.setCell ⟨b, j, none⟩ v) g t cs := h.keep (heap_setCell_other w _ g v hb)
theorem Blk.of_eq (h : Blk w g t cs) {ds : List Value} (e : cs = ds) : Blk w g t ds := e ▸ h
theorem Blk.inj (h : Blk w g t cs) {ds : List Value} {u : TypeId} (k : Blk w g u ds) : cs = ds := by
  unfold Blk at h k
  rw [h] at k
  injection k with k
  injection k with k1
  simpa using k1
/-- A piece of a block that holds bytes, as a byte slice. -/
theorem Blk.rdb (h : Blk w g t cs) (off n c : Nat) (bs : List UInt8) (hb : (cs.drop off).take n = bvs bs) (hl : bs.length = n) (hc : n ≤ c) (hm : c ≤ maxLen) : RdB w (some ⟨g, off, none⟩) n c bs := by
  refine ⟨hl, hc, hm, fun _ => ⟨g, off, rfl, fun j hj => ?_⟩⟩
  rw [h.cell]
  have h1 := congrArg (fun l : List Value => l[j]?) hb
  simp only [List.getElem?_take, List.getElem?_drop] at h1
  rw [if_pos (by omega), bvs_get bs j hj] at h1
  exact h1
end

theorem splice_snoc {α : Type} (L : List α) (off : Nat) (l : List α) (v : α) (h : off + l.length < L.length) : (splice L off l).set (off + l.length) v = splice L off (l ++ [v]) := by
  unfold splice
  have e1 : (L.take off).length = off := by rw [List.length_take]; omega
  rw [List.set_append_right _ _ (by omega), e1, Nat.add_sub_cancel_left, List.set_append_right _ _ (Nat.le_refl _), Nat.sub_self]
  rw [List.append_assoc, List.length_append, List.length_singleton]
  congr 2
  rw [List.drop_eq_getElem_cons (by omega), List.set_cons_zero, List.singleton_append, Nat.add_assoc]
theorem splice_nil {α : Type} (L : List α) (off : Nat) : splice L off [] = L := by simp [splice]

section
variable {P : Program} {w : World}
/-- A new variable of an array's or a struct's type. -/
theorem wpList_alloc_blk {ops : Array Oper} {rest : List Oper} {o : Oper} {a : Act} {Q : Exit → Act → World → Prop} (hg : o.guard = none) (t : TypeId) (ho : o.op = .alloc t) (zs : List Value)
    (hz : (P.info? t).bind (·.zero) = some (.agg zs.toArray))
    (h : ∀ w', Blk w' w.heap.size t zs → Kept [] w w' → w'.heap.size = w.heap.size + 1 → wpList P ops Q rest (a.put o.dst (.pointer (some ⟨w.heap.size, 0, none⟩))) w') : wpList P ops Q (o :: rest) a w := by
  refine wpList_plain hg fun K hK => ?_
  cases hq : P.info? t with
  | none => simp [hq] at hz
  | some i =>
    have hzz : i.zero = some (.agg zs.toArray) := by simpa [hq] using hz
    have hh := h (w.alloc (.cells zs.toArray t)) (Blk.new w t zs) ((Kept.refl [] w).alloc _) (by simp)
    unfold Oper.wp execOp
    simp [ho, Instr.alloc, zeroValue, typeInfo, hq, hzz, newVar, newRow, Value.cells]
    exact hK _ _ hh
/-- All of it stored. -/
theorem wpList_store_blk {ops : Array Oper} {rest : List Oper} {o : Oper} {a : Act} {Q : Exit → Act → World → Prop} (hgd : o.guard = none) (ty : TypeId) (x y : Operand) (ho : o.op = .store ty x y)
    (g : Nat) (cs : List Value) (hx : a.eval x = .pointer (some ⟨g, 0, none⟩)) (hy : a.eval y = .agg cs.toArray)
    (t : TypeId) (old : List Value) (hg : Blk w g t old) (hi : (P.info? ty).map (·.size) = some cs.length)
    (hold : old.length = cs.length) (h1 : ∀ v ∈ cs, v.oneCell' = true)
    (h : ∀ w', Blk w' g t cs → Kept [g] w w' → w'.heap.size = w.heap.size → wpList P ops Q rest (a.put o.dst undef) w') : wpList P ops Q (o :: rest) a w :=
  wpList_store_row hgd ty x y ho g cs.toArray hx hy t old.toArray hg (by simpa using hi) (by simpa using hold) (all_oneCell_toArray h1)
    (h _ (setRow_heap w g _ _ t _ hg) ⟨rfl, rfl, rfl, by simp, fun k _ hk => setRow_other w g k _ (by simpa using hk)⟩ (by simp))
/-- All of it loaded. -/
theorem wpList_load_blk {ops : Array Oper} {rest : List Oper} {o : Oper} {a : Act} {Q : Exit → Act → World → Prop} (hgd : o.guard = none) (ty : TypeId) (x : Operand) (ho : o.op = .load ty x)
    (g : Nat) (hx : a.eval x = .pointer (some ⟨g, 0, none⟩)) (t : TypeId) (cs : List Value) (d : TypeDesc) (hg : Blk w g t cs)
    (hu : P.underlying ty = some d) (hd : d.isRow = true) (hi : (P.info? ty).map (·.size) = some cs.length)
    (h : wpList P ops Q rest (a.put o.dst (.agg cs.toArray)) w) : wpList P ops Q (o :: rest) a w :=
  wpList_load_mid hgd ty x ho g 0 hx cs d (fun j v hv => by rw [Nat.zero_add, hg.cell]; exact hv) hu hd hi h
/-- A piece of it loaded. -/
theorem wpList_load_part {ops : Array Oper} {rest : List Oper} {o : Oper} {a : Act} {Q : Exit → Act → World → Prop} (hgd : o.guard = none) (ty : TypeId) (x : Operand) (ho : o.op = .load ty x)
    (g off : Nat) (hx : a.eval x = .pointer (some ⟨g, off, none⟩)) (t : TypeId) (cs ps : List Value) (d : TypeDesc) (hg : Blk w g t cs) (hp : (cs.drop off).take ps.length = ps)
    (hu : P.underlying ty = some d) (hd : d.isRow = true) (hi : (P.info? ty).map (·.size) = some ps.length)
    (h : wpList P ops Q rest (a.put o.dst (.agg ps.toArray)) w) : wpList P ops Q (o :: rest) a w :=
  wpList_load_mid hgd ty x ho g off hx ps d (fun j v hv => by
    rw [hg.cell]
    have h1 := congrArg (fun l : List Value => l[j]?) hp
    have hj := (List.getElem?_eq_some_iff.1 hv).1
    simp only [List.getElem?_take, List.getElem?_drop] at h1
    rw [if_pos hj] at h1
    rw [h1, hv]) hu hd hi h
/-- A result that lies in a variable. -/
theorem results_blk {fn : Func} {p : Tmp} {ty : TypeId} (h : fn.results = #[.cell p ty]) (tmps : Array Value) (g : Nat) (t : TypeId) (cs : List Value) (d : TypeDesc)
    (hp : tmps.getD p undef = .pointer (some ⟨g, 0, none⟩)) (hg : Blk w g t cs)
    (hu : P.underlying ty = some d) (hd : d.isRow = true) (hi : (P.info? ty).map (·.size) = some cs.length) :
    (results fn tmps).run P w = .ok (.agg cs.toArray) w :=
  results_cell_row h tmps w g t cs.toArray (0, 0) d hp hg hu (by cases d <;> simp_all [TypeDesc.isRow]) (by simpa using hi)
/-- An array that is cut: from a place on; up to a place. -/
theorem run_cut_from (t e : TypeId) (n g off : Nat) (k : IntKind) (l : Nat) (z : Int) (hu : P.underlying t = some (.array n e)) (hs : (P.info? e).map (·.size) = some 1) (hz : z = (l : Int)) (hl : l < n) (W : World) :
    (Instr.sliceAt t (.pointer (some ⟨g, off, none⟩)) (some (.int k z)) none none).run P W = .ok (.slice (some ⟨g, off + l, none⟩) (n - l) (n - l)) W := by
  subst hz
  cases hq : P.info? e with
  | none => simp [hq] at hs
  | some i =>
    have hi : i.size = 1 := by simpa [hq] using hs
    simp only [Instr.sliceAt, Instr.sureAddr, Sem.run_bind, run_underlying hu, Result.andThen_ok, Sem.run_pure]
    simp [Instr.sliceBounds, run_sliceBound, sizeOf, typeInfo, hq, hi, Nat.le_of_lt hl, show n ≠ l by omega, Addr.add_mid]
theorem run_cut_to (t e : TypeId) (n g off : Nat) (k : IntKind) (h : Nat) (z : Int) (hu : P.underlying t = some (.array n e)) (hs : (P.info? e).map (·.size) = some 1) (hz : z = (h : Int)) (hh : h ≤ n) (hn : 0 < n) (W : World) :
    (Instr.sliceAt t (.pointer (some ⟨g, off, none⟩)) none (some (.int k z)) none).run P W = .ok (.slice (some ⟨g, off, none⟩) h n) W := by
  subst hz
  cases hq : P.info? e with
  | none => simp [hq] at hs
  | some i =>
    have hi : i.size = 1 := by simpa [hq] using hs
    simp only [Instr.sliceAt, Instr.sureAddr, Sem.run_bind, run_underlying hu, Result.andThen_ok, Sem.run_pure]
    simp [Instr.sliceBounds, run_sliceBound, sizeOf, typeInfo, hq, hi, hh, show n ≠ 0 by omega, Addr.add_mid]
end
end Go.Proofs.YtmhigipljplgdaaDoor
/-
  Helper words on words of 32 bits: the walk's own spellings of their operations, rows of them. No statement of the seed is proved here.
-/
namespace Go.Proofs.YtmhigipljplgdaaDoor
open Go.RowKit
set_option linter.unusedVariables false

theorem wv_shr (x : W32) (n : Nat) : wv x / 2 ^ n = wv (x >>> n) := by
  rw [wv_eq, wv_eq, BitVec.toNat_ushiftRight, Nat.shiftRight_eq_div_pow]
  have : ((2 : Int) ^ n) = ((2 ^ n : Nat) : Int) := by simp
  rw [this]
  omega
theorem wv_shl (x : W32) (n : Nat) : wv x * 2 ^ n % 4294967296 = wv (x <<< n) := by
  rw [wv_eq, wv_eq, BitVec.toNat_shiftLeft, Nat.shiftLeft_eq]
  have : ((2 : Int) ^ n) = ((2 ^ n : Nat) : Int) := by simp
  rw [this]
  omega
theorem bits_orW (x y : W32) : bits .or .u32 (wv x) (wv y) = wv (x ||| y) := by
  rw [wv_eq, wv_eq, wv_eq, BitVec.toNat_or]; exact u32_or_nat _ _ (by have := x.isLt; omega) (by have := y.isLt; omega)
theorem bits_andW (x y : W32) : bits .and .u32 (wv x) (wv y) = wv (x &&& y) := by
  rw [wv_eq, wv_eq, wv_eq, BitVec.toNat_and]; exact u32_and_nat _ _ (by have := x.isLt; omega) (by have := y.isLt; omega)
theorem bits_xorW (x y : W32) : bits .xor .u32 (wv x) (wv y) = wv (x ^^^ y) := by
  rw [wv_eq, wv_eq, wv_eq, BitVec.toNat_xor]; exact u32_xor_nat _ _ (by have := x.isLt; omega) (by have := y.isLt; omega)

theorem word4 (a b c d : UInt8) : bits .or .u32 (bits .or .u32 (bits .or .u32 ((a.toNat : Int) * 16777216) ((b.toNat : Int) * 65536)) ((c.toNat : Int) * 256)) (d.toNat : Int) = wv (wd [a, b, c, d]) := by
  have ha := a.toNat_lt
  have hb := b.toNat_lt
  have hc := c.toNat_lt
  have hd := d.toNat_lt
  have e1 : ((a.toNat : Int) * 16777216) = ((a.toNat * 16777216 : Nat) : Int) := by omega
  have e2 : ((b.toNat : Int) * 65536) = ((b.toNat * 65536 : Nat) : Int) := by omega
  have e3 : ((c.toNat : Int) * 256) = ((c.toNat * 256 : Nat) : Int) := by omega
  rw [e1, e2, e3, u32_or_nat _ _ (by omega) (by omega), nat_join 24 _ _ (by omega) (by omega), u32_or_nat _ _ (by omega) (by omega), nat_join 16 _ _ (by omega) (by omega), u32_or_nat _ _ (by omega) (by omega), nat_join 8 _ _ (by omega) (by omega)]
  unfold wd
  rw [wv_ofNat]
  · simp [num]; omega
  · simp [num]; omega

theorem be4 (x : Nat) : be 4 x = [UInt8.ofNat (x / 2 ^ 24), UInt8.ofNat (x / 2 ^ 16), UInt8.ofNat (x / 2 ^ 8), UInt8.ofNat (x / 2 ^ 0)] := by
  simp [be, Nat.div_div_eq_div_mul]
theorem be4_get (x i : Nat) (h : i < 4) : (be 4 x)[i]? = some (UInt8.ofNat (x / 2 ^ (24 - 8 * i))) := by
  rw [be4]
  have : i = 0 ∨ i = 1 ∨ i = 2 ∨ i = 3 := by omega
  rcases this with rfl | rfl | rfl | rfl <;> rfl
theorem byteW (x : W32) (d : Nat) : wv x / 2 ^ d % 256 = ((UInt8.ofNat (x.toNat / 2 ^ d)).toNat : Int) := by
  rw [ofNat_toNat, wv_eq]
  have : ((2 : Int) ^ d) = ((2 ^ d : Nat) : Int) := by simp
  rw [this]
  omega

/-- A call that leaves in block g these cells, and turns nothing else that was there. -/
def SetRet (g : Nat) (t : TypeId) (cs : List Value) (w : World) (e : Ending) (w' : World) : Prop := e = .returned (.tuple #[]) ∧ Blk w' g t cs ∧ Kept [g] w w'

theorem wv_shr3 (x : W32) : wv x / (8 : Int) = wv (x >>> 3) := by
  have := wv_shr x 3
  rwa [show (2 : Int) ^ 3 = 8 by decide] at this
theorem wv_shr10 (x : W32) : wv x / (1024 : Int) = wv (x >>> 10) := by
  have := wv_shr x 10
  rwa [show (2 : Int) ^ 10 = 1024 by decide] at this
/-- A word's cell. -/
def wcell (x : W32) : Value := .int .u32 (wv x)
def wvs (l : List W32) : List Value := l.map wcell
theorem wvs_length (l : List W32) : (wvs l).length = l.length := by simp [wvs]
theorem wvs_append (a b : List W32) : wvs (a ++ b) = wvs a ++ wvs b := by simp [wvs]
theorem wvs_one (l : List W32) : ∀ u ∈ wvs l, u.oneCell' = true := by
  intro u hu
  simp only [wvs, List.mem_map] at hu
  obtain ⟨b, _, rfl⟩ := hu
  rfl
theorem wvs_get (l : List W32) (j : Nat) (h : j < l.length) : (wvs l)[j]? = some (.int .u32 (wv (l.getD j 0))) := by simp [wvs, h, wcell]
theorem notW (x : W32) : bits .xor .u32 IntKind.u32.max (wv x) = wv (~~~x) := by
  have e : IntKind.u32.max = wv (BitVec.allOnes 32) := by rw [wv_eq]; decide
  rw [e, bits_xorW, BitVec.allOnes_xor]
/-- The first n of one list, the rest of another. -/
def mid (A B : List W32) (n : Nat) : List W32 := A.take n ++ B.drop n
theorem mid_length (A B : List W32) (n : Nat) (hA : A.length = B.length) (h : n ≤ B.length) : (mid A B n).length = B.length := by simp [mid]; omega
theorem mid_get (A B : List W32) (n : Nat) (hA : A.length = B.length) (h : n < B.length) : (mid A B n)[n]? = B[n]? := by
  unfold mid
  rw [List.getElem?_append_right (by rw [List.length_take]; omega), List.length_take, List.getElem?_drop]
  congr 1; omega
theorem mid_set (A B : List W32) (n : Nat) (hA : A.length = B.length) (h : n < B.length) : (mid A B n).set n (A.getD n 0) = mid A B (n + 1) := by
  unfold mid
  have e1 : (A.take n).length = n := by rw [List.length_take]; omega
  rw [List.set_append_right _ _ (by omega), e1, Nat.sub_self, List.drop_eq_getElem_cons h, List.set_cons_zero]
  rw [take_step A n (A.getD n 0) (by rw [List.getElem?_eq_getElem (by omega), List.getD_eq_getElem?_getD, List.getElem?_eq_getElem (by omega)]; rfl), List.append_assoc]
  rfl
theorem mid_all (A B : List W32) (hA : A.length = B.length) : mid A B B.length = A := by
  unfold mid; rw [List.drop_of_length_le (Nat.le_refl _), List.append_nil, List.take_of_length_le (by omega)]
def midc (A B : List W32) (n : Nat) (r : List Value) : List Value := wvs (mid A B n) ++ r
theorem midc_get (A B : List W32) (n : Nat) (r : List Value) (hA : A.length = B.length) (h : n < B.length) : (midc A B n r)[n]? = some (.int .u32 (wv (B.getD n 0))) := by
  unfold midc
  have hl := mid_length A B n hA (by omega)
  rw [List.getElem?_append_left (by rw [wvs_length]; omega), wvs_get _ _ (by omega), List.getD_eq_getElem?_getD, mid_get A B n hA h, ← List.getD_eq_getElem?_getD]
theorem midc_set (A B : List W32) (n : Nat) (r : List Value) (hA : A.length = B.length) (h : n < B.length) : (midc A B n r).set n (.int .u32 (wv (A.getD n 0))) = midc A B (n + 1) r := by
  unfold midc
  have hl := mid_length A B n hA (by omega)
  rw [List.set_append_left _ _ (by rw [wvs_length]; omega), ← mid_set A B n hA h]
  simp [wvs, List.map_set, wcell]
theorem run_index_agg {P : Program} (t e : TypeId) (n : Nat) (cs : Array Value) (i : Nat) (v : Value) (W : World) (hu : P.underlying t = some (.array n e)) (hs : (P.info? e).map (·.size) = some 1) (d : TypeDesc) (he : P.underlying e = some d) (hd : d.isRow = false) (hi : i < n) (hv : cs[i]? = some v) :
    (Instr.index t (.agg cs) (.int .i64 (i : Int))).run P W = .ok v W := by
  cases hq : P.info? e with
  | none => simp [hq] at hs
  | some inf =>
    have hsz : inf.size = 1 := by simpa [hq] using hs
    have hagg : (isAgg e).run P W = .ok false W := by
      unfold isAgg
      rw [Sem.run_bind, run_underlying he W]
      cases d <;> simp_all
    simp [Instr.index, asIntOf, run_underlying hu, sizeOf, typeInfo, hq, hsz, part, hagg, hv, hi]
theorem wv_add4 (a b c d : W32) : (wv a + wv b + wv c + wv d) % 4294967296 = wv (a + b + c + d) := by
  rw [← wv_add (a + b + c), ← wv_add (a + b), ← wv_add a]; omega
theorem wv_add3 (a b c : W32) : (wv a + wv b + wv c) % 4294967296 = wv (a + b + c) := by
  rw [← wv_add (a + b), ← wv_add a]; omega
/-- A row of words that comes as a value. -/
def AggRet (l : List W32) (w : World) (e : Ending) (w' : World) : Prop := e = .returned (.agg (wvs l).toArray) ∧ Kept [] w w'
/-- A row of bytes that comes as a value. -/
def KeyRet (l : List UInt8) (w : World) (e : Ending) (w' : World) : Prop := e = .returned (.agg (bvs l).toArray) ∧ Kept [] w w'
/-- Noughts. -/
def zb (n : Nat) : List Value := bvs (List.replicate n 0)
theorem zb_length (n : Nat) : (zb n).length = n := by simp [zb, bvs]
def u8v (x : UInt8) : Int := (x.toNat : Int)
theorem bits_xorB (x y : UInt8) : bits .xor .u8 (x.toNat : Int) (y.toNat : Int) = ((x ^^^ y).toNat : Int) := by
  rw [UInt8.toNat_xor]; exact u8_xor_nat _ _ (by have := x.toNat_lt; omega) (by have := y.toNat_lt; omega)
theorem bits_orB (x y : UInt8) : bits .or .u8 (x.toNat : Int) (y.toNat : Int) = ((x ||| y).toNat : Int) := by
  rw [UInt8.toNat_or]; exact u8_or_nat _ _ (by have := x.toNat_lt; omega) (by have := y.toNat_lt; omega)

section
variable {P : Program}
theorem run_cut_all (t e : TypeId) (n g off : Nat) (hu : P.underlying t = some (.array n e)) (hs : (P.info? e).map (·.size) = some 1) (hn : 0 < n) (W : World) :
    (Instr.sliceAt t (.pointer (some ⟨g, off, none⟩)) none none none).run P W = .ok (.slice (some ⟨g, off, none⟩) n n) W := by
  cases hq : P.info? e with
  | none => simp [hq] at hs
  | some i =>
    have hi : i.size = 1 := by simpa [hq] using hs
    simp only [Instr.sliceAt, Instr.sureAddr, Sem.run_bind, run_underlying hu, Result.andThen_ok, Sem.run_pure]
    simp [Instr.sliceBounds, sizeOf, typeInfo, hq, hi, show n ≠ 0 by omega, Addr.add_mid]
end
theorem Blk.all {w : World} {g : Nat} {t : TypeId} {bs : List UInt8} (h : Blk w g t (bvs bs)) (n : Nat) (hl : bs.length = n) (hm : n ≤ 1000) : RdB w (some ⟨g, 0, none⟩) n n bs :=
  h.rdb 0 n n bs (by rw [List.drop_zero, List.take_of_length_le (by rw [bvs_length]; omega)]) hl (Nat.le_refl _) (by simp only [maxLen]; omega)
theorem size_of_len {P : Program} {ty : TypeId} {n : Nat} (h : (P.info? ty).map (·.size) = some n) {bs : List UInt8} (hl : bs.length = n) : (P.info? ty).map (·.size) = some (bvs bs).length := by rw [bvs_length, hl]; exact h
theorem zb_len {n : Nat} {bs : List UInt8} (hl : bs.length = n) : (zb n).length = (bvs bs).length := by rw [bvs_length, hl]; simp [zb, bvs]

end Go.Proofs.YtmhigipljplgdaaDoor
/-
  Plain mathematics: one list that overwrites another from its head on. Nothing of the program here.
-/
namespace Go.Proofs.YtmhigipljplgdaaDoor
set_option linter.unusedVariables false

/-! ### overwriting, from the head on -/
/-- The first n of one list, the rest of another. -/
def ovr {α : Type} (A B : List α) (n : Nat) : List α := A.take n ++ B.drop n
section
variable {α : Type} {A B : List α} {n j : Nat}
theorem ovr_zero (A B : List α) : ovr A B 0 = B := by simp [ovr]
theorem ovr_all (h : A.length = B.length) (hn : B.length ≤ n) : ovr A B n = A := by
  unfold ovr; rw [List.drop_of_length_le hn, List.append_nil, List.take_of_length_le (by omega)]
theorem ovr_length (h : A.length = B.length) : (ovr A B n).length = B.length := by simp [ovr]; omega
theorem ovr_lt (hj : j < n) (h : j < A.length) : (ovr A B n)[j]? = A[j]? := by
  unfold ovr
  rw [List.getElem?_append_left (by rw [List.length_take]; omega), List.getElem?_take, if_pos hj]
theorem ovr_ge (h : A.length = B.length) (hj : n ≤ j) (hn : n ≤ B.length) : (ovr A B n)[j]? = B[j]? := by
  unfold ovr
  rw [List.getElem?_append_right (by rw [List.length_take]; omega), List.length_take, List.getElem?_drop]
  congr 1; omega
theorem ovr_set (h : A.length = B.length) (hn : n < B.length) {v : α} (hv : A[n]? = some v) : (ovr A B n).set n v = ovr A B (n + 1) := by
  unfold ovr
  have e1 : (A.take n).length = n := by rw [List.length_take]; omega
  rw [List.set_append_right _ _ (by omega), e1, Nat.sub_self, List.drop_eq_getElem_cons hn, List.set_cons_zero, take_step A n v hv, List.append_assoc]
  rfl
end
end Go.Proofs.YtmhigipljplgdaaDoor
/-
  Helper words on memory, going on: a piece of a block stored whole. No statement of the seed is proved here.
-/
namespace Go.Proofs.YtmhigipljplgdaaDoor
open Go.RowKit
set_option linter.unusedVariables false

theorem Blk.setCells {g : Nat} {t : TypeId} : ∀ (vs : List Value) (w : World) (L : List Value) (off : Nat), Blk w g t L → off + vs.length ≤ L.length → Blk (w.setCells g off vs) g t (splice L off vs)
  | [], w, L, off, h, _ => by rw [splice_nil]; exact h
  | v :: r, w, L, off, h, hl => by
    rw [List.length_cons] at hl
    have h1 := Blk.setCells r (w.setCell ⟨g, off, none⟩ v) (L.set off v) (off + 1) (h.set off v) (by rw [List.length_set]; omega)
    have e : splice (L.set off v) (off + 1) r = splice L off (v :: r) := by
      unfold splice
      have e1 : (L.set off v).take (off + 1) = L.take off ++ [v] := by
        rw [List.take_set, List.take_add_one, List.getElem?_eq_getElem (by omega)]
        rw [List.set_append_right _ _ (by rw [List.length_take]; omega)]
        congr 1
        rw [List.length_take, Nat.min_eq_left (by omega), Nat.sub_self]; rfl
      rw [e1, List.drop_set_of_lt (by omega), List.length_cons, show off + 1 + r.length = off + (r.length + 1) by omega]
      simp only [List.append_assoc, List.nil_append, List.cons_append]
    rw [← e]; exact h1
theorem kept_setCells {g : Nat} : ∀ (vs : List Value) (w : World) (off : Nat), Kept [g] w (w.setCells g off vs)
  | [], w, off => Kept.refl _ _
  | v :: r, w, off => ((Kept.refl [g] w).setCell (p := ⟨g, off, none⟩) (.inl (by simp)) v).trans (kept_setCells r _ _) (by simp)
theorem Blk.setAll {g : Nat} {t : TypeId} {w : World} {L vs : List Value} (h : Blk w g t L) (hl : L.length = vs.length) : Blk (w.setCells g 0 vs) g t vs := by
  have := Blk.setCells vs w L 0 h (by omega)
  have e : splice L 0 vs = vs := by unfold splice; rw [List.take_zero, List.nil_append, Nat.zero_add, ← hl, List.drop_length, List.append_nil]
  rwa [e] at this
theorem Blk.there {g : Nat} {t : TypeId} {w : World} {L : List Value} (h : Blk w g t L) (n : Nat) (hn : n = L.length) : w.there g 0 n := fun j hj => by
  rw [Nat.zero_add, h.cell, List.getElem?_eq_getElem (by omega)]
  exact ⟨rfl, h.frz j⟩
theorem Blk.thereAt {g : Nat} {t : TypeId} {w : World} {L : List Value} (h : Blk w g t L) (o n : Nat) (hn : o + n ≤ L.length) : w.there g o n := fun j hj => by
  rw [h.cell, List.getElem?_eq_getElem (by omega)]
  exact ⟨rfl, h.frz _⟩
theorem Blk.rangeOf {w : World} {g : Nat} {t : TypeId} {cs : List Value} (h : Blk w g t cs) : w.rangeAt g 0 cs := fun j v hv => by rw [Nat.zero_add, h.cell]; exact hv
/-- A region that draws, all of whose operations but the last ones read: an array or a struct loaded whole. -/
theorem wpStill_load_blk {P : Program} {ops : Array Oper} {rest : List Oper} {o : Oper} {a : Act} {w : World} {Q : Act → Prop} (hgd : o.guard = none) (ty : TypeId) (x : Operand) (ho : o.op = .load ty x)
    (g off : Nat) (hx : a.eval x = .pointer (some ⟨g, off, none⟩)) (cs : List Value) (d : TypeDesc) (hc : w.rangeAt g off cs) (hu : P.underlying ty = some d) (hd : d.isRow = true) (hi : (P.info? ty).map (·.size) = some cs.length)
    (h : wpStill P ops w Q rest (a.put o.dst (.agg cs.toArray))) : wpStill P ops w Q (o :: rest) a := by
  unfold wpStill
  rw [if_pos (by simp [Region.wanted, hgd])]
  unfold Oper.still execOp
  simp only [ho, hx, Instr.loadAt, Instr.sureAddr, Sem.run_bind, Sem.run_pure, Result.andThen_ok, run_loadVar_mid w g off ty cs d hc hu hd hi, Oper.stillUpon]
  exact ⟨trivial, h⟩
theorem OwB.blk {e : TypeId} {w : World} {g n : Nat} {bs : List UInt8} (h : OwB e w (.slice (some ⟨g, 0, none⟩) n n) bs) : Blk w g e (bvs bs) := by
  have hl := h.rd.len
  unfold OwB at h
  rcases h.2 with ⟨e1, _⟩ | ⟨g', cap, cur, e1, _, hg, _, _, hcs, ht⟩
  · cases e1
  · injection e1 with e1 e2 e3
    injection e1 with e1; injection e1 with e1
    subst e1 e3
    have : cur = (bvs bs).toArray := by
      rw [← ht, List.take_of_length_le (by simp; omega)]
    subst this
    exact hg
theorem Blk.own {e : TypeId} {w : World} {g n : Nat} {bs : List UInt8} (h : Blk w g e (bvs bs)) (hl : bs.length = n) (hn : n ≤ maxLen) : OwB e w (.slice (some ⟨g, 0, none⟩) n n) bs := by
  subst hl
  exact ⟨by rw [bvs_length, Nat.mul_one], .inr ⟨g, _, _, rfl, Nat.zero_le _, h, Nat.le_refl _, hn, by simp [bvs], by rw [Nat.mul_one, List.take_of_length_le (by simp [bvs])]⟩⟩
end Go.Proofs.YtmhigipljplgdaaDoor
/-
  How arguments that came in are read: words between a row's data and this seat's walks. No statement of the seed is proved here.
-/
namespace Go.Proofs.YtmhigipljplgdaaDoor
open Go.ChangeShapes Go.WideShapes Go.ChangeAt Go.RowKit

theorem zs_byte (z : Int) (h : (Lit.int .u8 z).wf = true) : z = ((UInt8.ofNat z.toNat).toNat : Int) := by
  have := bounds_u8 h
  simp only [UInt8.toNat_ofNat']
  omega

/-- A byte slice that came in reads as bytes. -/
theorem rdb_of_trod {H : Type} {enc : TypeId × Value → H} {P : Program} {W : World} {t e : TypeId} {a : Option Addr} {len cap base : Nat} {sp : Nat → Bool} {held : Bool} {d : DataW H} {p : List MemPlace}
    (ht : P.underlying t = some (.slice e)) (he : P.underlying e = some (.int .u8)) (hc : P.cellsOf e = 1)
    (h : DataW.Trod enc P W base sp held t (.slice a len cap) d p) : ∃ bs, RdB W a len cap bs := by
  obtain ⟨fuel, hf⟩ := h
  rcases open_ints ht he hc hf with ⟨hcs, _⟩ | ⟨x, l, c, zs, hcs, _, hl, hm, hz, _, hcell, hwz⟩
  · simp [Value.cells] at hcs
    obtain ⟨rfl, rfl, rfl⟩ := hcs
    exact ⟨[], RdB.nil W⟩
  · simp [Value.cells] at hcs
    obtain ⟨rfl, rfl, rfl⟩ := hcs
    have hlen : len ≤ zs.length := by rw [hz]; split <;> omega
    refine ⟨(zs.take len).map (fun z => UInt8.ofNat z.toNat), by simp; omega, hl, hm, fun hp => ?_⟩
    obtain ⟨b, off, spot⟩ := x
    have hs : spot = none := by
      have h0 := hcell 0 (by omega)
      simpa [Addr.add] using World.cell?_spot h0
    subst hs
    refine ⟨b, off, rfl, fun j hj => ?_⟩
    simp only [List.length_map, List.length_take] at hj
    have hjz : j < zs.length := by omega
    have h1 := hcell j hjz
    have h2 : (⟨b, off, none⟩ : Addr).add j = ⟨b, off + j, none⟩ := by unfold Addr.add; split <;> simp_all
    rw [h2] at h1
    rw [h1]
    have h3 : zs.getD j 0 = zs[j] := by simp [hjz]
    rw [h3]
    simp only [bcell, List.getElem_map, List.getElem_take]
    rw [← zs_byte zs[j] (hwz _ (List.getElem_mem hjz))]

/-- Element by element makes a list. -/
theorem list_of {α : Type} {R : Nat → α → Prop} : ∀ {n : Nat}, (∀ i, i < n → ∃ a, R i a) → ∃ l : List α, l.length = n ∧ ∀ j, (h : j < l.length) → R j l[j]
  | 0, _ => ⟨[], rfl, fun j h => absurd h (by simp)⟩
  | n + 1, hh => by
    obtain ⟨l, hl, hr⟩ := list_of (n := n) (fun i hi => hh i (by omega))
    obtain ⟨a, ha⟩ := hh n (by omega)
    refine ⟨l ++ [a], by simp [hl], fun j hj => ?_⟩
    rw [List.length_append, List.length_singleton] at hj
    rcases Nat.lt_or_ge j l.length with h1 | h1
    · rw [List.getElem_append_left h1]; exact hr j h1
    · obtain rfl : j = l.length := by omega
      simp only [List.getElem_concat_length]
      rw [hl]; exact ha

section
variable {H : Type} {enc : TypeId × Value → H} {P : Program} {W : World} {base : Nat} {sp : Nat → Bool} {held : Bool}

theorem addr_add (b off j : Nat) : (⟨b, off, none⟩ : Addr).add j = ⟨b, off + j, none⟩ := by unfold Addr.add; split <;> simp_all

/-- A slice that came in, element by element: where its cells lie, and that each element reads. -/
theorem slice_elems {t e : TypeId} {n : Nat} {cs0 : List Value} {y : DataW H × List MemPlace} (ht : P.underlying t = some (.slice e)) (hC : 0 < P.cellsOf e) (h : DataW.trod enc P W base sp held n t cs0 = some y) :
    ∃ A len cap, cs0 = [.slice A len cap] ∧ len ≤ cap ∧ cap ≤ maxLen ∧ (0 < len → ∃ b off, A = some ⟨b, off, none⟩ ∧ ∀ i, i < len → ∃ (cs : List Value) (m : Nat) (z : DataW H × List MemPlace), cs.length = P.cellsOf e ∧
      (∀ j, j < P.cellsOf e → W.cell? ⟨b, off + (i * P.cellsOf e + j), none⟩ = cs[j]?) ∧ DataW.trod enc P W base sp held m e cs = some z) := by
  rcases Deep.open_slice ht h with ⟨rfl, _⟩ | ⟨a, len, cap, m, k, D, Pl, rfl, hb, hl, hm, hmm, hx, hi⟩
  · exact ⟨none, 0, 0, rfl, Nat.le_refl _, by simp [maxLen], fun h => absurd h (by omega)⟩
  · refine ⟨some a, len, cap, rfl, hl, hm, fun hp => ?_⟩
    have hlm : len ≤ m := by rw [hmm]; split <;> omega
    obtain ⟨b, off, spot⟩ := a
    have hs : spot = none := by
      obtain ⟨cs', hc, _⟩ := hi 0 (by omega)
      obtain ⟨_, hcl, hat⟩ := World.cells?_some hc
      have h0 := hat 0 hC
      rw [List.getElem?_eq_getElem (by omega)] at h0
      simpa [Addr.add] using World.cell?_spot h0
    subst hs
    refine ⟨b, off, rfl, fun i hil => ?_⟩
    obtain ⟨cs', hc, htr⟩ := hi i (by omega)
    obtain ⟨_, hcl, hat⟩ := World.cells?_some hc
    refine ⟨cs', k, _, hcl, fun j hj => ?_, htr⟩
    have := hat j hj
    rwa [addr_add, addr_add, Nat.add_assoc] at this

/-- One field of a struct that reads: its type, its place, its number of cells. -/
theorem struct_field {t : TypeId} {fs : Array Field} {n : Nat} {cs : List Value} {y : DataW H × List MemPlace} (ht : P.underlying t = some (.struct fs)) (h : DataW.trod enc P W base sp held n t cs = some y) (i : Nat) (ft : TypeId) (o k : Nat)
    (hf : (fs[i]?).map (fun f => (f.type, f.offset)) = some (ft, o)) (hk : P.cellsOf ft = k) : ∃ (m : Nat) (z : DataW H × List MemPlace), DataW.trod enc P W base sp held m ft ((cs.drop o).take k) = some z := by
  obtain ⟨xs, m, _, _, _, hlen, hall⟩ := DataW.trod_struct ht h
  obtain ⟨f, hf1, hf2⟩ := Option.map_eq_some_iff.1 hf
  simp only [Prod.mk.injEq] at hf2
  obtain ⟨rfl, rfl⟩ := hf2
  subst hk
  have := hall i f hf1
  have hi : i < fs.size := (Array.getElem?_eq_some_iff.1 hf1).1
  exact ⟨m, xs[i]'(by omega), by rw [this, List.getElem?_eq_getElem (by omega)]⟩
theorem leaf_int {t : TypeId} {k : IntKind} {n : Nat} {cs : List Value} {y : DataW H × List MemPlace} (ht : P.underlying t = some (.int k)) (h : DataW.trod enc P W base sp held n t cs = some y) : ∃ z, cs = [.int k z] ∧ (Lit.int k z).wf = true := by
  obtain ⟨a, e0, _, wa⟩ := DataW.trod_int ht h
  exact ⟨a, e0, wa⟩
theorem leaf_bytes {t e : TypeId} {n : Nat} {cs : List Value} {y : DataW H × List MemPlace} (ht : P.underlying t = some (.slice e)) (he : P.underlying e = some (.int .u8)) (hc : P.cellsOf e = 1) (h : DataW.trod enc P W base sp held n t cs = some y) :
    ∃ A len cap bs, cs = [.slice A len cap] ∧ RdB W A len cap bs := by
  obtain ⟨A, len, cap, rfl, _⟩ := slice_elems ht (by omega) h
  obtain ⟨bs, hb⟩ := rdb_of_trod (d := y.1) (p := y.2) (a := A) (len := len) (cap := cap) ht he hc ⟨n, by simpa [Value.cells] using h⟩
  exact ⟨A, len, cap, bs, rfl, hb⟩
end
end Go.Proofs.YtmhigipljplgdaaDoor
/-
  A byte slice that is cut: what its pieces read as. No statement of the seed is proved here.
-/
namespace Go.Proofs.YtmhigipljplgdaaDoor
open Go.RowKit

theorem RdB.drop {w : World} {A : Option Addr} {n c : Nat} {bs : List UInt8} (h : RdB w A n c bs) (k : Nat) (hk : k ≤ n) :
    RdB w (if c = k then A else A.map (·.add k)) (n - k) (c - k) (bs.drop k) := by
  have hl := h.len
  have hc := h.cap
  have hm := h.most
  refine ⟨by rw [List.length_drop, hl], by omega, by omega, fun hp => ?_⟩
  obtain ⟨b, off, rfl, hcell⟩ := h.cells (by omega)
  rw [if_neg (by omega)]
  have h2 : (⟨b, off, none⟩ : Addr).add k = ⟨b, off + k, none⟩ := by unfold Addr.add; split <;> simp_all
  refine ⟨b, off + k, by simp [h2], fun j hj => ?_⟩
  rw [List.length_drop] at hj
  have := hcell (k + j) (by omega)
  rw [List.getElem_drop, Nat.add_assoc]
  exact this
theorem RdB.take {w : World} {A : Option Addr} {n c : Nat} {bs : List UInt8} (h : RdB w A n c bs) (k : Nat) (hk : k ≤ n) : RdB w A k c (bs.take k) := by
  have hl := h.len
  have hc := h.cap
  refine ⟨by rw [List.length_take]; omega, by omega, h.most, fun hp => ?_⟩
  obtain ⟨b, off, e, hcell⟩ := h.cells (by omega)
  refine ⟨b, off, e, fun j hj => ?_⟩
  rw [List.length_take] at hj
  rw [List.getElem_take]
  exact hcell j (by omega)

theorem off_add {A : Option Addr} {S : List Nat} (h : Off A S) (k : Nat) : Off (A.map (·.add k)) S := by
  intro a ha
  rcases A with _ | b
  · cases ha
  · simp only [Option.map_some, Option.some.injEq] at ha
    subst ha
    have := h b rfl
    unfold Addr.add
    split <;> exact this

end Go.Proofs.YtmhigipljplgdaaDoor
/-
  Byte slices that are cut, as one equation each; guarded operations; an empty row of one's own. No statement of the seed is proved here.
-/
namespace Go.Proofs.YtmhigipljplgdaaDoor
open Go.RowKit
set_option linter.unusedVariables false

theorem wpList_unguard {P : Program} {ops : Array Oper} {Q : Exit → Act → World → Prop} {a : Act} {w : World} {rest : List Oper} {o : Oper} (hw : Region.wanted o (yielded ops a.tmps) = true)
    (h : wpList P ops Q ({ o with guard := none } :: rest) a w) : wpList P ops Q (o :: rest) a w := by
  unfold wpList at h ⊢
  rw [if_pos hw]
  rw [if_pos (by simp [Region.wanted])] at h
  cases o
  exact h
section
variable {P : Program} {w : World} {A : Option Addr} {n c : Nat} {bs : List UInt8}
theorem size_of_elem (t e : TypeId) (ht : P.underlying t = some (.slice e)) (hs : (P.info? e).map (·.size) = some 1) (W : World) : (sizeOf (P.elem t)).run P W = .ok 1 W := by
  cases hq : P.info? e with
  | none => simp [hq] at hs
  | some i =>
    have hi : i.size = 1 := by simpa [hq] using hs
    have he : P.elem t = e := by simp [Program.elem, ht]
    rw [he]; simp [sizeOf, typeInfo, hq, hi]
/-- A byte slice that is cut from one place up to another. -/
theorem RdB.cutMid (h : RdB w A n c bs) (t e : TypeId) (ht : P.underlying t = some (.slice e)) (hs : (P.info? e).map (·.size) = some 1) (l k : Nat) (y z : Int) (hy : y = (l : Int)) (hz : z = (k : Int)) (hl : l ≤ k) (hk : k ≤ n) :
    ∃ A', RdB w A' (k - l) (c - l) ((bs.drop l).take (k - l)) ∧ ∀ W, (Instr.slice t (.slice A n c) (some (.int .i64 y)) (some (.int .i64 z)) none).run P W = .ok (.slice A' (k - l) (c - l)) W := by
  subst hy hz
  have hcap := h.cap
  refine ⟨_, (h.drop l (by omega)).take (k - l) (by omega), fun W => ?_⟩
  have he : P.elem t = e := by simp [Program.elem, ht]
  rw [run_slice_lh (P := P) W t A n c (by rw [he]; exact ht) .i64 .i64 (l : Int) (k : Int) (by omega) (by omega) (by omega), size_of_elem t e ht hs W]
  simp [sliced, Result.andThen]
/-- .. up to a place. -/
theorem RdB.cutTo (h : RdB w A n c bs) (t e : TypeId) (ht : P.underlying t = some (.slice e)) (hs : (P.info? e).map (·.size) = some 1) (k : Nat) (z : Int) (hz : z = (k : Int)) (hk : k ≤ n) :
    ∃ A', RdB w A' k c (bs.take k) ∧ ∀ W, (Instr.slice t (.slice A n c) none (some (.int .i64 z)) none).run P W = .ok (.slice A' k c) W := by
  subst hz
  have hcap := h.cap
  have h0 := (h.drop 0 (by omega)).take k (by omega)
  rw [List.drop_zero, Nat.sub_zero] at h0
  refine ⟨_, h0, fun W => ?_⟩
  have he : P.elem t = e := by simp [Program.elem, ht]
  rw [run_slice_h (P := P) W t A n c (by rw [he]; exact ht) .i64 (k : Int) (by omega) (by omega), size_of_elem t e ht hs W]
  simp [sliced, Result.andThen]
end
/-- A byte slice that is cut from a place on. -/
theorem RdB.cutFrom {P : Program} {w : World} {A : Option Addr} {n c : Nat} {bs : List UInt8} (h : RdB w A n c bs) (t e : TypeId) (ht : P.underlying t = some (.slice e)) (hs : (P.info? e).map (·.size) = some 1) (k : Nat) (z : Int) (hz : z = (k : Int)) (hk : k ≤ n) :
    ∃ A', RdB w A' (n - k) (c - k) (bs.drop k) ∧ (∀ S, Off A S → Off A' S) ∧ ∀ W, (Instr.slice t (.slice A n c) (some (.int .i64 z)) none none).run P W = .ok (.slice A' (n - k) (c - k)) W := by
  subst hz
  have hcap := h.cap
  refine ⟨_, h.drop k hk, ?_, ?_⟩
  · intro S hS
    split
    · exact hS
    · exact off_add hS k
  · intro W
    cases hq : P.info? e with
    | none => simp [hq] at hs
    | some i =>
      have hi : i.size = 1 := by simpa [hq] using hs
      have he : P.elem t = e := by simp [Program.elem, ht]
      rw [run_slice_l (P := P) W t A n c (by rw [he]; exact ht) .i64 (k : Int) (by omega) (by omega)]
      have hz : (sizeOf (P.elem t)).run P W = .ok 1 W := by rw [he]; simp [sizeOf, typeInfo, hq, hi]
      rw [hz]
      simp [sliced, Result.andThen]
/-- x[k:] of a whole row. -/
theorem run_cut_last {P : Program} (t e : TypeId) (ht : P.underlying t = some (.slice e)) (hs : (P.info? e).map (·.size) = some 1) (g n k : Nat) (z : Int) (hz : z = (k : Int)) (hk : k < n) (W : World) :
    (Instr.slice t (.slice (some ⟨g, 0, none⟩) n n) (some (.int .i64 z)) none none).run P W = .ok (.slice (some ⟨g, k, none⟩) (n - k) (n - k)) W := by
  subst hz
  have he : P.elem t = e := by simp [Program.elem, ht]
  rw [run_slice_l (P := P) W t _ n n (by rw [he]; exact ht) .i64 (k : Int) (by omega) (by omega), size_of_elem t e ht hs W]
  simp [sliced, Result.andThen, Addr.add_mid, show n ≠ k by omega]

theorem own_empty (w : World) : OwB 5 (w.alloc (.cells #[] 5)) (.slice (some ⟨w.heap.size, 0, none⟩) 0 0) [] := by
  have := World.ownsRow_lit (base := 0) (e := 5) (size := 1) w #[] 0 (Nat.zero_le _) (by simp [maxLen]) rfl
  simpa [OwB, bvs] using this
/-- A row of one's own, cut to its first k. -/
theorem OwB.cut {e : TypeId} {w : World} {A : Option Addr} {n c : Nat} {bs : List UInt8} (h : OwB e w (.slice A n c) bs) (k : Nat) (hk : k ≤ n) : OwB e w (.slice A k c) (bs.take k) := by
  have hl := h.rd.len
  unfold OwB at h ⊢
  have hkl : (bs.take k).length = k := by rw [List.length_take]; omega
  refine ⟨by rw [bvs_length, Nat.mul_one], ?_⟩
  rw [hkl]
  rcases h.2 with ⟨e1, hn⟩ | ⟨g, cap, cur, e1, hb, hg, hnc, hcm, hcs, ht⟩
  · injection e1 with e1 e2 e3
    subst e1 e2 e3
    have : k = 0 := by omega
    subst this
    exact .inl ⟨rfl, rfl⟩
  · injection e1 with e1 e2 e3
    subst e1 e3
    refine .inr ⟨g, c, cur, rfl, hb, hg, by omega, hcm, hcs, ?_⟩
    have h2 := congrArg (List.take (k * 1)) ht
    rw [List.take_take, Nat.min_eq_left (by omega)] at h2
    rw [h2, Nat.mul_one, bvs, bvs, List.map_take]
/-- x[:k], where x begins stays. -/
theorem run_cut_first {P : Program} (t e : TypeId) (ht : P.underlying t = some (.slice e)) (hs : (P.info? e).map (·.size) = some 1) (A : Option Addr) (n c k : Nat) (z : Int) (hz : z = (k : Int)) (hk : k ≤ c) (W : World) :
    (Instr.slice t (.slice A n c) none (some (.int .i64 z)) none).run P W = .ok (.slice A k c) W := by
  subst hz
  have he : P.elem t = e := by simp [Program.elem, ht]
  rw [run_slice_h (P := P) W t A n c (by rw [he]; exact ht) .i64 (k : Int) (by omega) (by omega), size_of_elem t e ht hs W]
  cases A <;> simp [sliced, Result.andThen, Addr.add]
end Go.Proofs.YtmhigipljplgdaaDoor
/-
  A region whose operations come in any order that its edges allow: a law by an invariant over what has been done. Nothing of the program here.
-/
namespace Go.Proofs.YtmhigipljplgdaaDoor
open Go
set_option linter.unusedVariables false
section
variable {P : Program} {ops : Array Oper} {Q : Exit → Act → World → Prop}

theorem oper_wp_then {o : Oper} {a : Act} {w : World} {K : Act → World → Prop} (h : o.wp P a w (fun a w => Exit.then K Q .normal a w) (Exit.then K Q)) : o.wp P a w K Q := by
  unfold Oper.wp at *
  generalize (execOp a.eval o).run P w = r at *
  cases r with
  | ok n w' =>
    cases n <;> simp only [Oper.upon] at h ⊢ <;>
      first
        | exact h
        | exact Calls.mono h (fun e w'' he => by cases e <;> exact he)
        | exact Rows.mono h (fun _ _ he => he)
  | halt x w' => cases x <;> simp only [Oper.upon] at h ⊢ <;> exact h

theorem wpOp_of_list {i : Nat} {o : Oper} {a : Act} {w : World} {K : Act → World → Prop} (ho : ops[i]? = some o) (h : wpList P ops (Exit.then K Q) [o] a w) : wpOp P ops Q i K a w := by
  unfold wpOp
  simp only [ho]
  unfold wpList at h
  split
  · rename_i hw
    rw [if_pos hw] at h
    rcases h with h | ⟨h1, h2⟩
    · exact .inl (oper_wp_then h)
    · exact .inr ⟨h1, h2⟩
  · rename_i hw
    rw [if_neg hw] at h
    exact h

def left (f : Nat → Bool) : Nat → Nat
  | 0 => 0
  | n + 1 => left f n + (if f n then 0 else 1)
theorem left_le (f g : Nat → Bool) (h : ∀ i, f i = true → g i = true) : ∀ n, left g n ≤ left f n
  | 0 => Nat.le_refl _
  | n + 1 => by
    have ih := left_le f g h n
    unfold left
    cases hf : f n
    · split <;> simp <;> omega
    · rw [h n hf]; simpa using ih
theorem left_lt (f g : Nat → Bool) (h : ∀ i, f i = true → g i = true) (i : Nat) (h1 : f i = false) (h2 : g i = true) : ∀ n, i < n → left g n < left f n
  | 0, hi => absurd hi (by omega)
  | n + 1, hi => by
    by_cases hn : i = n
    · subst hn
      have := left_le f g h i
      unfold left
      rw [h1, h2]
      simp
      omega
    · have ih := left_lt f g h i h1 h2 n (by omega)
      have h3 : (if g n then 0 else 1) ≤ (if f n then 0 else 1) := by
        cases hf : f n
        · split <;> simp
        · rw [h n hf]; simp
      unfold left
      omega

theorem ready_mem {md : Region.Mode} {listed : Array Bool} {i : Nat} (h : i ∈ Region.ready md ops listed) : i < ops.size ∧ listed.getD i true = false := by
  unfold Region.ready at h
  simp only [List.mem_filter, List.mem_range, Bool.and_eq_true, Bool.not_eq_true'] at h
  exact ⟨h.1, h.2.1⟩
theorem getD_set (listed : Array Bool) (i j : Nat) (h : listed.getD j true = true) : (listed.setIfInBounds i true).getD j true = true := by
  simp only [Array.getD_eq_getD_getElem?, Array.getElem?_setIfInBounds] at *
  split
  · split <;> simp
  · exact h
theorem getD_set_self (listed : Array Bool) (i : Nat) : (listed.setIfInBounds i true).getD i true = true := by
  simp only [Array.getD_eq_getD_getElem?, Array.getElem?_setIfInBounds]
  by_cases h : i < listed.size <;> simp [h]
theorem left_zero (f : Nat → Bool) : ∀ n, left f n = 0 → ∀ i, i < n → f i = true
  | 0, _, i, hi => absurd hi (by omega)
  | n + 1, h, i, hi => by
    unfold left at h
    by_cases hn : i = n
    · subst hn
      cases hf : f i
      · rw [hf] at h; simp at h
      · rfl
    · exact left_zero f n (by omega) i (by omega)

theorem wpAny_inv {md : Region.Mode} (I : Array Bool → Act → World → Prop)
    (hstep : ∀ (listed : Array Bool) (a : Act) (w : World), I listed a w → ∀ (i : Nat) (o : Oper), ops[i]? = some o → i ∈ Region.ready md ops listed → wpList P ops (Exit.then (I (listed.setIfInBounds i true)) Q) [o] a w)
    (hend : ∀ (listed : Array Bool) (a : Act) (w : World), Region.ready md ops listed = [] → I listed a w → Q .normal a w) :
    ∀ (fuel : Nat) (listed : Array Bool) (a : Act) (w : World), left (fun i => listed.getD i true) ops.size ≤ fuel → I listed a w → wpAny P md ops Q fuel listed a w
  | 0, listed, a, w, hf, hI => by
    have hr : Region.ready md ops listed = [] := by
      cases hc : Region.ready md ops listed with
      | nil => rfl
      | cons x xs =>
        have hm := ready_mem (ops := ops) (md := md) (listed := listed) (i := x) (by rw [hc]; simp)
        have := left_zero (fun i => listed.getD i true) ops.size (by omega) x hm.1
        simp only [hm.2] at this
        cases this
    exact ⟨hr, hend listed a w hr hI⟩
  | fuel + 1, listed, a, w, hf, hI => by
    refine ⟨fun hr => hend listed a w hr hI, fun i hi => ?_⟩
    have hm := ready_mem hi
    obtain ⟨o, ho⟩ : ∃ o, ops[i]? = some o := ⟨ops[i]'hm.1, Array.getElem?_eq_getElem hm.1⟩
    refine wpOp_mono (fun a' w' h => ?_) (wpOp_of_list ho (hstep listed a w hI i o ho hi))
    refine wpAny_inv I hstep hend fuel _ a' w' ?_ h
    have := left_lt (fun i => listed.getD i true) (fun j => (listed.setIfInBounds i true).getD j true) (fun j hj => getD_set listed i j hj) i hm.2 (getD_set_self listed i) ops.size hm.1
    omega

theorem wp_region_inv {id : Nat} {a : Act} {w : World} (hm : P.follows .mixedOrders = true) (I : Array Bool → Act → World → Prop)
    (h0 : I (Array.replicate ops.size false) a w.drew)
    (hstep : ∀ (listed : Array Bool) (a : Act) (w : World), I listed a w → ∀ (i : Nat) (o : Oper), ops[i]? = some o → i ∈ Region.ready .any ops listed → wpList P ops (Exit.then (I (listed.setIfInBounds i true)) Q) [o] a w)
    (hend : ∀ (listed : Array Bool) (a : Act) (w : World), Region.ready .any ops listed = [] → I listed a w → Q .normal a w) : (Code.region id ops true).wp P Q a w := by
  refine wp_region_any hm (wpAny_inv I hstep hend ops.size _ a _ ?_ h0)
  have : ∀ (f : Nat → Bool) n, left f n ≤ n := by
    intro f n
    induction n with
    | zero => exact Nat.le_refl _
    | succ n ih => unfold left; split <;> omega
  exact this _ _
end
end Go.Proofs.YtmhigipljplgdaaDoor
/-
  A region whose operations come in any order that its edges allow, step by step: loads of arrays and structs are taken first, what is left comes one by one. Nothing of the program here.
-/
namespace Go.Proofs.YtmhigipljplgdaaDoor
open Go Go.RowKit
set_option linter.unusedVariables false
section
variable {P : Program} {ops : Array Oper} {Q : Exit → Act → World → Prop} {S : World → Prop} {md : Region.Mode}

/-- The beginning. -/
theorem wp_region_begin {id : Nat} {a : Act} {w : World} (S : World → Prop) (hm : P.follows .mixedOrders = true)
    (h : wpAnyH P .any ops (NoPanic Q) S ops.size (Array.replicate ops.size false) a w.drew) : (Code.region id ops true).wp P Q a w :=
  wp_region_noPanic (wp_region_held hm h)
/-- An array or a struct, loaded whole, taken first. -/
theorem held_load (i : Nat) {oi : Oper} {fuel : Nat} {listed : Array Bool} {a : Act} {w : World} (hi : ops[i]? = some oi) (hs : Region.noSelect ops = true) (hf : Region.free md ops listed i = true) (hr : (Region.ready md ops listed).contains i = true)
    (hw : Region.wanted oi (yielded ops a.tmps) = true) (ty : TypeId) (x : Operand) (ho : oi.op = .load ty x) (b o : Nat) (hx : a.eval x = .pointer (some ⟨b, o, none⟩)) (cs : List Value) (d : TypeDesc)
    (hS : ∀ w, S w → w.rangeAt b o cs) (hu : P.underlying ty = some d) (hd : d.isRow = true) (hz : (P.info? ty).map (·.size) = some cs.length) (hSw : S w)
    (h : wpAnyH P md ops (NoPanic Q) S fuel (listed.setIfInBounds i true) (a.put oi.dst (.agg cs.toArray)) w) : wpAnyH P md ops (NoPanic Q) S (fuel + 1) listed a w :=
  wpAnyH_take hi hs hf hr (fun _ _ _ h => h) (yieldsIf_load_mid hw ty x ho b o hx cs d hS hu hd hz) hSw h
/-- What only reckons, taken first. -/
theorem held_pure (i : Nat) {oi : Oper} {fuel : Nat} {listed : Array Bool} {a : Act} {w : World} (v : Value) (hi : ops[i]? = some oi) (hs : Region.noSelect ops = true) (hf : Region.free md ops listed i = true) (hr : (Region.ready md ops listed).contains i = true)
    (hw : Region.wanted oi (yielded ops a.tmps) = true) (hv : ∀ w, S w → (execOp a.eval oi).run P w = .ok (.value v) w) (hSw : S w)
    (h : wpAnyH P md ops (NoPanic Q) S fuel (listed.setIfInBounds i true) (a.put oi.dst v) w) : wpAnyH P md ops (NoPanic Q) S (fuel + 1) listed a w :=
  wpAnyH_take hi hs hf hr (fun _ _ _ h => h) (.inl ⟨hw, hv⟩) hSw h
/-- The only one that may come next. -/
theorem held_one (i : Nat) {oi : Oper} {fuel : Nat} {listed : Array Bool} {a : Act} {w : World} (hr : Region.ready md ops listed = [i]) (hi : ops[i]? = some oi)
    (h : wpList P ops (Exit.then (fun a' w' => S w' ∧ wpAnyH P md ops Q S fuel (listed.setIfInBounds i true) a' w') Q) [oi] a w) : wpAnyH P md ops Q S (fuel + 1) listed a w :=
  wpAnyH_all hr (by simp) (fun j hj => by
    obtain rfl : j = i := by simpa using hj
    exact wpOp_of_list hi h)
/-- All are done. -/
theorem held_done {listed : Array Bool} {a : Act} {w : World} {fuel : Nat} (hr : Region.ready md ops listed = []) (h : Q .normal a w) : wpAnyH P md ops (NoPanic Q) S fuel listed a w :=
  wpAnyH_done hr (NoPanic.normal h) fuel
end
end Go.Proofs.YtmhigipljplgdaaDoor
/-
  Operations that only reckon, as one equation each, for regions that are walked step by step. Nothing of the program here.
-/
namespace Go.Proofs.YtmhigipljplgdaaDoor
open Go Go.RowKit
set_option linter.unusedVariables false
section
variable {P : Program} {ops : Array Oper} {Q : Exit → Act → World → Prop} {S : World → Prop} {md : Region.Mode}
/-- As held_load, the slot named. -/
theorem held_loadD (i d : Nat) {oi : Oper} {fuel : Nat} {listed : Array Bool} {a : Act} {w : World} (hi : ops[i]? = some oi) (hdst : oi.dst = some d) (hs : Region.noSelect ops = true) (hf : Region.free md ops listed i = true) (hr : (Region.ready md ops listed).contains i = true)
    (hw : Region.wanted oi (yielded ops a.tmps) = true) (ty : TypeId) (x : Operand) (ho : oi.op = .load ty x) (b o : Nat) (hx : a.eval x = .pointer (some ⟨b, o, none⟩)) (cs : List Value) (u : TypeDesc)
    (hS : ∀ w, S w → w.rangeAt b o cs) (hu : P.underlying ty = some u) (hd : u.isRow = true) (hz : (P.info? ty).map (·.size) = some cs.length) (hSw : S w)
    (h : wpAnyH P md ops (NoPanic Q) S fuel (listed.setIfInBounds i true) (a.put (some d) (.agg cs.toArray)) w) : wpAnyH P md ops (NoPanic Q) S (fuel + 1) listed a w :=
  held_load i hi hs hf hr hw ty x ho b o hx cs u hS hu hd hz hSw (by rw [hdst]; exact h)
/-- As held_pure, the slot named. -/
theorem held_pureD (i d : Nat) {oi : Oper} {fuel : Nat} {listed : Array Bool} {a : Act} {w : World} (v : Value) (hi : ops[i]? = some oi) (hdst : oi.dst = some d) (hs : Region.noSelect ops = true) (hf : Region.free md ops listed i = true) (hr : (Region.ready md ops listed).contains i = true)
    (hw : Region.wanted oi (yielded ops a.tmps) = true) (hv : ∀ w, S w → (execOp a.eval oi).run P w = .ok (.value v) w) (hSw : S w)
    (h : wpAnyH P md ops (NoPanic Q) S fuel (listed.setIfInBounds i true) (a.put (some d) v) w) : wpAnyH P md ops (NoPanic Q) S (fuel + 1) listed a w :=
  held_pure i v hi hs hf hr hw hv hSw (by rw [hdst]; exact h)
end
section
variable {P : Program} {o : Oper} {ev : Operand → Value}
theorem pure_conv (src dst : TypeId) (x : Operand) (ho : o.op = .convert src dst x) (q k : IntKind) (z r : Int) (hx : ev x = .int q z) (hs : (P.underlying src).isSome = true) (hd : P.underlying dst = some (.int k)) (hr : k.wrap z = r) (w : World) :
    (execOp ev o).run P w = .ok (.value (.int k r)) w := by
  obtain ⟨d, hd'⟩ := Option.isSome_iff_exists.mp hs
  unfold execOp
  simp only [ho, hx]
  simp [convert, run_underlying hd', run_underlying hd, Conv.intToInt, hr]
theorem pure_add (t u : TypeId) (x y : Operand) (ho : o.op = .binOp .add t x y u) (k : IntKind) (a b r : Int) (hx : ev x = .int k a) (hy : ev y = .int k b) (hr : k.wrap (a + b) = r) (w : World) :
    (execOp ev o).run P w = .ok (.value (.int k r)) w := by
  unfold execOp
  simp only [ho, hx, hy]
  simp [eqGuard, binOp, Op.intArith, hr]
theorem pure_quo (t u : TypeId) (x y : Operand) (ho : o.op = .binOp .quo t x y u) (k : IntKind) (a b r : Int) (hx : ev x = .int k a) (hy : ev y = .int k b) (hb : b ≠ 0) (hr : k.wrap (a.tdiv b) = r) (w : World) :
    (execOp ev o).run P w = .ok (.value (.int k r)) w := by
  unfold execOp
  simp only [ho, hx, hy]
  simp [eqGuard, binOp, Op.intDiv, hb, hr]
theorem pure_cut (t : TypeId) (x : Operand) (lo hi : Option Operand) (ho : o.op = .slice t x lo hi none) (A : Option Addr) (n c : Nat) (u : Value) (hx : ev x = .slice A n c) (e : TypeId) (ht : P.underlying t = some (.slice e)) (w : World)
    (h : (Instr.slice t (.slice A n c) (lo.map ev) (hi.map ev) none).run P w = .ok u w) : (execOp ev o).run P w = .ok (.value u) w := by
  unfold execOp
  simp only [ho, hx]
  simp [Instr.sliceAt, run_underlying ht, h]
end
end Go.Proofs.YtmhigipljplgdaaDoor
/-
  A region whose operations come in any order, step by step, going on: an operation that is not wanted, two that may come next, a cell that is loaded. Nothing of the program here.
-/
namespace Go.Proofs.YtmhigipljplgdaaDoor
open Go Go.RowKit
set_option linter.unusedVariables false
section
variable {P : Program} {ops : Array Oper} {Q : Exit → Act → World → Prop} {S : World → Prop} {md : Region.Mode}
/-- What is not wanted. -/
theorem held_skipD (i d : Nat) {oi : Oper} {fuel : Nat} {listed : Array Bool} {a : Act} {w : World} (hi : ops[i]? = some oi) (hdst : oi.dst = some d) (hs : Region.noSelect ops = true) (hf : Region.free md ops listed i = true) (hr : (Region.ready md ops listed).contains i = true)
    (hw : Region.wanted oi (yielded ops a.tmps) = false) (hSw : S w)
    (h : wpAnyH P md ops (NoPanic Q) S fuel (listed.setIfInBounds i true) (a.put (some d) undef) w) : wpAnyH P md ops (NoPanic Q) S (fuel + 1) listed a w :=
  wpAnyH_take (v := undef) hi hs hf hr (fun _ _ _ h => h) (.inr ⟨hw, rfl⟩) hSw (by rw [hdst]; exact h)
/-- Two that may come next. -/
theorem held_two (i j : Nat) {oi oj : Oper} {fuel : Nat} {listed : Array Bool} {a : Act} {w : World} (hr : Region.ready md ops listed = [i, j]) (hi : ops[i]? = some oi) (hj : ops[j]? = some oj)
    (h1 : wpList P ops (Exit.then (fun a' w' => S w' ∧ wpAnyH P md ops Q S fuel (listed.setIfInBounds i true) a' w') Q) [oi] a w)
    (h2 : wpList P ops (Exit.then (fun a' w' => S w' ∧ wpAnyH P md ops Q S fuel (listed.setIfInBounds j true) a' w') Q) [oj] a w) : wpAnyH P md ops Q S (fuel + 1) listed a w :=
  wpAnyH_all hr (by simp) (fun x hx => by
    have : x = i ∨ x = j := by simpa using hx
    rcases this with rfl | rfl
    · exact wpOp_of_list hi h1
    · exact wpOp_of_list hj h2)
end
end Go.Proofs.YtmhigipljplgdaaDoor
/-
  Helper words on memory, going on: slices whose elements are one cell each, as lists of cells ('RdV'), rows of the call's own ('OwV'), append. No statement of the seed is proved here.
-/
namespace Go.Proofs.YtmhigipljplgdaaDoor
open Go.RowKit

/-- The slice '.slice A n c' reads as the cells vs. -/
structure RdV (w : World) (A : Option Addr) (n c : Nat) (vs : List Value) : Prop where
  len : vs.length = n
  cap : n ≤ c
  most : c ≤ maxLen
  cells : 0 < n → ∃ b off, A = some ⟨b, off, none⟩ ∧ ∀ j, (h : j < vs.length) → w.cell? ⟨b, off + j, none⟩ = some vs[j]
section
variable {w w' : World} {A : Option Addr} {n c : Nat} {vs : List Value} {S : List Nat}
theorem RdV.nil (w : World) : RdV w none 0 0 [] := ⟨rfl, Nat.le_refl _, by simp [maxLen], fun h => absurd h (by omega)⟩
theorem RdV.at_ (h : RdV w A n c vs) (hn : 0 < n) : ∃ b off, A = some ⟨b, off, none⟩ ∧ b < w.heap.size ∧ ∀ j, (hj : j < vs.length) → w.cell? ⟨b, off + j, none⟩ = some vs[j] := by
  obtain ⟨b, off, e, hc⟩ := h.cells hn
  have hl := h.len
  have h0 := hc 0 (by omega)
  exact ⟨b, off, e, World.block_lt_of_cell? w _ h0, hc⟩
theorem RdV.keep (h : RdV w A n c vs) (hk : ∀ b off, A = some ⟨b, off, none⟩ → b < w.heap.size → w'.heap[b]? = w.heap[b]?) : RdV w' A n c vs :=
  ⟨h.len, h.cap, h.most, fun hn => by
    obtain ⟨b, off, e, hb, hc⟩ := h.at_ hn
    exact ⟨b, off, e, fun j hj => (World.cell?_of_block (w := w) (hk b off e hb)).trans (hc j hj)⟩⟩
theorem RdV.kept (h : RdV w A n c vs) (hk : Kept S w w') (hS : Off A S) : RdV w' A n c vs :=
  h.keep fun b _ e hb => hk.block b hb (hS _ e)
theorem RdV.kept0 (h : RdV w A n c vs) (hk : Kept [] w w') : RdV w' A n c vs := h.kept hk (fun _ _ => by simp)
theorem RdV.keptNew (h : RdV w A n c vs) (hk : Kept S w w') (hS : ∀ k, k ∈ S → w.heap.size ≤ k) : RdV w' A n c vs :=
  h.keep fun b _ _ hb => hk.block b hb (fun hm => by have := hS b hm; omega)
theorem RdV.one (w : World) (e : TypeId) (v : Value) : RdV (w.alloc (.cells #[v] e)) (some ⟨w.heap.size, 0, none⟩) 1 1 [v] := by
  refine ⟨rfl, Nat.le_refl _, by simp [maxLen], fun _ => ⟨w.heap.size, 0, rfl, fun j hj => ?_⟩⟩
  have hj0 : j = 0 := by simpa using hj
  subst hj0
  rw [cell_of_row _ _ _ _ _ _ (heap_alloc_new w _)]
  rfl
theorem RdV.drop (h : RdV w A n c vs) (k : Nat) (hk : k ≤ n) : RdV w (if c = k then A else A.map (·.add k)) (n - k) (c - k) (vs.drop k) := by
  have hl := h.len
  have hc := h.cap
  have hm := h.most
  refine ⟨by rw [List.length_drop, hl], by omega, by omega, fun hp => ?_⟩
  obtain ⟨b, off, rfl, hcell⟩ := h.cells (by omega)
  rw [if_neg (by omega)]
  have h2 : (⟨b, off, none⟩ : Addr).add k = ⟨b, off + k, none⟩ := by unfold Addr.add; split <;> simp_all
  refine ⟨b, off + k, by simp [h2], fun j hj => ?_⟩
  rw [List.length_drop] at hj
  have := hcell (k + j) (by omega)
  rw [List.getElem_drop, Nat.add_assoc]
  exact this
theorem RdV.take (h : RdV w A n c vs) (k : Nat) (hk : k ≤ n) : RdV w A k c (vs.take k) := by
  have hl := h.len
  have hc := h.cap
  refine ⟨by rw [List.length_take]; omega, by omega, h.most, fun hp => ?_⟩
  obtain ⟨b, off, e, hcell⟩ := h.cells (by omega)
  refine ⟨b, off, e, fun j hj => ?_⟩
  rw [List.length_take] at hj
  rw [List.getElem_take]
  exact hcell j (by omega)
theorem RdV.news {a : Addr} (h : RdV w (some a) n c vs) : ∀ j u, vs[j]? = some u → w.cell? (a.add j) = some u := by
  intro j u hu
  obtain ⟨hj, rfl⟩ := List.getElem?_eq_some_iff.1 hu
  have hl := h.len
  obtain ⟨b, off, e, _, hc⟩ := h.at_ (by omega)
  injection e with e
  subst e
  have := hc j hj
  simp only [Addr.add]
  split
  · rename_i h0
    subst h0
    exact this
  · exact this
end

/-- A slice value that owns its row, which begins at a block's head: one that can be appended to. -/
def OwV (e : TypeId) (w : World) (v : Value) (vs : List Value) : Prop := w.ownsRow 0 e 1 v vs.length vs
section
variable {e : TypeId} {w w' : World} {v : Value} {vs : List Value} {S : List Nat}
theorem OwV.nil (e : TypeId) (w : World) : OwV e w (.slice none 0 0) [] := World.ownsRow_nil _ _ _ _
theorem OwV.empty (e : TypeId) (w : World) : OwV e (w.alloc (.cells #[] e)) (.slice (some ⟨w.heap.size, 0, none⟩) 0 0) [] :=
  ⟨rfl, .inr ⟨w.heap.size, 0, #[], rfl, Nat.zero_le _, heap_alloc_new w _, Nat.le_refl _, by simp [maxLen], rfl, rfl⟩⟩
theorem OwV.form (h : OwV e w v vs) : ∃ A n c, v = .slice A n c ∧ RdV w A n c vs ∧ (∀ g, v.ownBlock = some g → g < w.heap.size) := by
  rcases h.2 with ⟨rfl, hn⟩ | ⟨g, cap, cur, rfl, _, hg, hnc, hcm, hcs, htake⟩
  · have : vs = [] := List.eq_nil_of_length_eq_zero hn
    subst this
    exact ⟨none, 0, 0, rfl, RdV.nil w, by simp [Value.ownBlock]⟩
  · have hlt : g < w.heap.size := (Array.getElem?_eq_some_iff.1 hg).1
    refine ⟨some ⟨g, 0, none⟩, _, cap, rfl, ⟨rfl, hnc, hcm, fun _ => ⟨g, 0, rfl, fun j hj => ?_⟩⟩, by simp [Value.ownBlock]; omega⟩
    rw [Nat.zero_add]
    rw [cell_of_row w g j cur e (0, 0) hg]
    have := congrArg (fun l : List Value => l[j]?) htake
    simp only [List.getElem?_take] at this
    rw [if_pos (by omega), List.getElem?_eq_getElem hj] at this
    simpa using this
theorem OwV.rd {A : Option Addr} {n c : Nat} (h : OwV e w (.slice A n c) vs) : RdV w A n c vs := by
  obtain ⟨A', m, d, e, hr, _⟩ := h.form
  injection e with e1 e2 e3
  subst e1 e2 e3
  exact hr
theorem OwV.keep (h : OwV e w v vs) (hk : ∀ g, v.ownBlock = some g → g < w.heap.size → w'.heap[g]? = w.heap[g]?) : OwV e w' v vs := by
  refine ⟨h.1, ?_⟩
  rcases h.2 with hn | ⟨g, cap, cur, rfl, hb, hg, rest⟩
  · exact .inl hn
  · exact .inr ⟨g, cap, cur, rfl, hb, (hk g rfl (Array.getElem?_eq_some_iff.1 hg).1).trans hg, rest⟩
theorem OwV.kept (h : OwV e w v vs) (hk : Kept S w w') (hS : ∀ g, v.ownBlock = some g → g ∉ S) : OwV e w' v vs := h.keep fun g hg hl => hk.block g hl (hS g hg)
theorem OwV.kept0 (h : OwV e w v vs) (hk : Kept [] w w') : OwV e w' v vs := h.kept hk (fun _ _ => by simp)
theorem OwV.alloc (h : OwV e w v vs) (o : Obj) : OwV e (w.alloc o) v vs := h.kept0 ((Kept.refl [] w).alloc o)
theorem OwV.drew (h : OwV e w v vs) : OwV e w.drew v vs := h.kept0 ((Kept.refl [] w).drew)
end

section
variable {P : Program} {w : World}
/-- append(row, cells...), whatever the source is (nil, empty, or not). -/
theorem run_append_vals (t ty e : TypeId) (i : TypeInfo) (z : Value) (bytes : Nat) (ht : P.underlying t = some (.slice e)) (hi : P.info? e = some i) (hz : i.zero = some z)
    (hsize : i.size = 1) (hby : i.bytes = bytes) (hzs : z.cells.size = 1) {v : Value} {xs : List Value} (hown : OwV e w v xs)
    {A : Option Addr} {m c : Nat} {news : List Value} (hr : RdV w A m c news) (h1 : ∀ u ∈ news, u.oneCell' = true) (h63 : xs.length + m ≤ maxLen) (hbytes : (xs.length + m) * bytes ≤ 140737488355328) :
    ∃ v' w', (Builtin.append_ #[t, t] ty #[v, .slice A m c]).run P w = .ok v' w' ∧ OwV e w' v' (xs ++ news) ∧ Kept v.ownBlock.toList w w' ∧ Moved w v v' := by
  rcases A with _ | a
  · have hm : m = 0 := by
      rcases Nat.eq_zero_or_pos m with h0 | h0
      · exact h0
      · obtain ⟨b, off, e, _⟩ := hr.cells h0
        cases e
    subst hm
    have hn : news = [] := List.eq_nil_of_length_eq_zero hr.len
    subst hn
    refine ⟨v, w, ?_, by simpa using hown, Kept.refl _ _, Moved.refl _ _⟩
    rcases hown.2 with ⟨rfl, _⟩ | ⟨g, cap, cur, rfl, _, _, hnc, _⟩
    · simp [Builtin.append_, run_underlying ht, sizeOf, typeInfo, hi, Builtin.lenOf, Builtin.firstCells]
    · simp [Builtin.append_, run_underlying ht, sizeOf, typeInfo, hi, Builtin.lenOf, Builtin.firstCells, hnc, storeCells]
  · obtain ⟨v', w', hrun, h2, h3, _, h5⟩ := run_append_own_at (P := P) w 0 t ty e i z 1 bytes ht hi hz hsize hby hzs (by omega) v xs.length xs hown a m c news
      (by rw [hr.len]; omega) hr.news h1 h63 hbytes (Nat.zero_le _)
    refine ⟨v', w', hrun, ?_, (Kept.refl _ _).grown h3 (by intro k hk; simp [hk]), ?_⟩
    · have := hr.len
      unfold OwV
      rw [List.length_append, this]
      exact h2
    · intro g hg
      rcases h5 with h5 | h5
      · exact .inl (by rw [← h5]; exact hg)
      · rw [h5] at hg
        injection hg with hg
        exact .inr (by omega)
theorem wpList_append_vals {ops : Array Oper} {rest : List Oper} {o : Oper} {a : Act} {Q : Exit → Act → World → Prop} (hgd : o.guard = none) (s x : Operand) (t : TypeId)
    (ho : o.op = .call { callee := .builtin .append, args := #[s, x], argTypes := #[t, t] })
    (e : TypeId) (i : TypeInfo) (z : Value) (bytes : Nat) (ht : P.underlying t = some (.slice e)) (hi : P.info? e = some i) (hz : i.zero = some z)
    (hsize : i.size = 1) (hby : i.bytes = bytes) (hzs : z.cells.size = 1)
    (v : Value) (xs : List Value) (hs : a.eval s = v) (hown : OwV e w v xs)
    (A : Option Addr) (m c : Nat) (news : List Value) (hx : a.eval x = .slice A m c) (hr : RdV w A m c news) (h1 : ∀ u ∈ news, u.oneCell' = true)
    (h63 : xs.length + m ≤ maxLen) (hbytes : (xs.length + m) * bytes ≤ 140737488355328)
    (h : ∀ v' w', OwV e w' v' (xs ++ news) → Kept v.ownBlock.toList w w' → Moved w v v' → wpList P ops Q rest (a.put o.dst v') w') : wpList P ops Q (o :: rest) a w := by
  refine wpList_plain hgd fun K hK => ?_
  obtain ⟨v', w', hrun, h2, h3, h4⟩ := run_append_vals (P := P) (w := w) t o.type e i z bytes ht hi hz hsize hby hzs hown hr h1 h63 hbytes
  unfold Oper.wp execOp
  simp only [ho, resolve, invoke, builtin, Sem.run_bind, Sem.run_pure, Result.andThen_ok, List.map_toArray, List.map_cons, List.map_nil, hs, hx, hrun]
  exact hK _ _ (h v' w' h2 h3 h4)
theorem step_append_vals {ops : Array Oper} {o : Oper} {a : Act} {K : Act → World → Prop} {Q : Exit → Act → World → Prop} {E : Prop} (hgd : o.guard = none) (s x : Operand) (t : TypeId)
    (ho : o.op = .call { callee := .builtin .append, args := #[s, x], argTypes := #[t, t] })
    (e : TypeId) (i : TypeInfo) (z : Value) (bytes : Nat) (ht : P.underlying t = some (.slice e)) (hi : P.info? e = some i) (hz : i.zero = some z)
    (hsize : i.size = 1) (hby : i.bytes = bytes) (hzs : z.cells.size = 1)
    (v : Value) (xs : List Value) (hs : a.eval s = v) (hown : OwV e w v xs)
    (A : Option Addr) (m c : Nat) (news : List Value) (hx : a.eval x = .slice A m c) (hr : RdV w A m c news) (h1 : ∀ u ∈ news, u.oneCell' = true)
    (h63 : xs.length + m ≤ maxLen) (hbytes : (xs.length + m) * bytes ≤ 140737488355328)
    (h : ∀ v' w', OwV e w' v' (xs ++ news) → Kept v.ownBlock.toList w w' → Moved w v v' → K (a.put o.dst v') w') :
    if Region.wanted o (yielded ops a.tmps) = true then Oper.wp P o a w K Q else E := by
  have hw : Region.wanted o (yielded ops a.tmps) = true := by simp [Region.wanted, hgd]
  rw [if_pos hw]
  obtain ⟨v', w', hrun, h2, h3, h4⟩ := run_append_vals (P := P) (w := w) t o.type e i z bytes ht hi hz hsize hby hzs hown hr h1 h63 hbytes
  unfold Oper.wp execOp
  simp only [ho, resolve, invoke, builtin, Sem.run_bind, Sem.run_pure, Result.andThen_ok, List.map_toArray, List.map_cons, List.map_nil, hs, hx, hrun]
  exact h v' w' h2 h3 h4
/-- What an append leaves, seen from an elder world behind which the row was made. -/
theorem app_new {wr W w5 : World} {v v5 : Value} (hK : Kept [] wr W) (hv : ∀ g, v.ownBlock = some g → wr.heap.size ≤ g) (hk : Kept v.ownBlock.toList W w5) (hm : Moved W v v5) :
    Kept [] wr w5 ∧ ∀ g, v5.ownBlock = some g → wr.heap.size ≤ g := by
  refine ⟨hK.trans hk (fun i hi => .inr (hv i (by simpa using hi))), fun g hg => ?_⟩
  rcases hm g hg with h | h
  · exact hv g h
  · exact Nat.le_trans hK.size h
end
theorem RdV.one_at {w : World} {g : Nat} {v : Value} {e : TypeId} {fr : Nat × Nat} (h : w.heap[g]? = some (.cells #[v] e fr)) : RdV w (some ⟨g, 0, none⟩) 1 1 [v] := by
  refine ⟨rfl, Nat.le_refl _, by simp [maxLen], fun _ => ⟨g, 0, rfl, fun j hj => ?_⟩⟩
  have hj0 : j = 0 := by simpa using hj
  subst hj0
  rw [cell_of_row _ _ _ _ _ _ h]
  rfl
theorem OwV.empty_at {w : World} {g : Nat} {e : TypeId} (h : w.heap[g]? = some (.cells #[] e (0, 0))) : OwV e w (.slice (some ⟨g, 0, none⟩) 0 0) [] :=
  ⟨rfl, .inr ⟨g, 0, #[], rfl, Nat.zero_le _, h, Nat.le_refl _, by simp [maxLen], rfl, rfl⟩⟩
end Go.Proofs.YtmhigipljplgdaaDoor
/-
  Helper words on memory, going on: an append leaves the row's own first cells as they were, wherever the new row lies. No statement of the seed is proved here.
-/
namespace Go.Proofs.YtmhigipljplgdaaDoor
open Go.RowKit

section
variable {P : Program} {w : World}
theorem append_keeps (t ty e : TypeId) (i : TypeInfo) (z : Value) (bytes : Nat) (ht : P.underlying t = some (.slice e)) (hi : P.info? e = some i) (hz : i.zero = some z)
    (hsize : i.size = 1) (hby : i.bytes = bytes) {v : Value} {xs : List Value} (hown : OwV e w v xs)
    {A : Option Addr} {m c : Nat} {news : List Value} (hr : RdV w A m c news) (h1 : ∀ u ∈ news, u.oneCell' = true) (h63 : xs.length + m ≤ maxLen) (hbytes : (xs.length + m) * bytes ≤ 140737488355328)
    {v' : Value} {w' : World} (hrun : (Builtin.append_ #[t, t] ty #[v, .slice A m c]).run P w = .ok v' w') :
    ∀ g j u, v.ownBlock = some g → j < xs.length → w.cell? ⟨g, j, none⟩ = some u → w'.cell? ⟨g, j, none⟩ = some u := by
  subst hby
  intro g j u hg hj hu
  rcases A with _ | a
  · have hm : m = 0 := by
      rcases Nat.eq_zero_or_pos m with h0 | h0
      · exact h0
      · obtain ⟨b, off, e, _⟩ := hr.cells h0
        cases e
    subst hm
    have hw : w' = w := by
      rcases hown.2 with ⟨rfl, _⟩ | ⟨g, cap, cur, rfl, _, _, hnc, _⟩
      · simp [Builtin.append_, run_underlying ht, sizeOf, typeInfo, hi, Builtin.lenOf, Builtin.firstCells] at hrun
        exact hrun.2.symm
      · simp [Builtin.append_, run_underlying ht, sizeOf, typeInfo, hi, Builtin.lenOf, Builtin.firstCells, hnc, storeCells] at hrun
        exact hrun.2.symm
    rw [hw]; exact hu
  · have hl : news.length = m * i.size := by rw [hr.len, hsize]; omega
    rcases hown.2 with ⟨rfl, h0⟩ | ⟨g2, cap, cur, rfl, _, hg2, hnc, hcm, hcs, htake⟩
    · omega
    · have hgg : g2 = g := by simpa [Value.ownBlock] using hg
      subst hgg
      by_cases hroom : xs.length + m ≤ cap
      · have hfit : xs.length * i.size + news.length ≤ cur.size := by rw [hl, hcs, hsize]; omega
        have hr2 := run_append_room (P := P) w t ty e i ht hi g2 xs.length cap cur hg2 a m c news hl hr.news h1 hroom hfit
        rw [hr2] at hrun
        injection hrun with e1 e2
        rw [← e2, cell_of_row _ _ _ _ _ _ (setRow_heap w g2 cur _ e _ hg2)]
        rw [cell_of_row w g2 j cur e (0, 0) hg2] at hu
        have hjc : j < cur.size := (Array.getElem?_eq_some_iff.1 hu).1
        simp only [List.getElem?_toArray]
        rw [List.getElem?_append_left (by simp only [List.length_append, List.length_take, Array.length_toList]; rw [hsize]; omega)]
        first
          | rw [List.getElem?_append_left (by simp only [List.length_take, Array.length_toList]; rw [hsize]; omega)]
          | skip
        rw [List.getElem?_take, if_pos (by rw [hsize]; omega)]
        simpa using hu
      · have holds : ∀ j u, xs[j]? = some u → w.cell? ((⟨g2, 0, none⟩ : Addr).add j) = some u := World.ownsRow.cells (g := g2) hown rfl
        have hr2 := run_append_grow (P := P) w t ty e i z ht hi hz ⟨g2, 0, none⟩ xs.length cap xs (by rw [hsize]; omega) holds a m c news hl hr.news (by omega) (by simp only [maxLen] at h63; omega) (growslice_fits (by omega) hbytes)
        rw [hr2] at hrun
        injection hrun with e1 e2
        rw [← e2]
        have hlt : g2 < w.heap.size := (Array.getElem?_eq_some_iff.1 hg2).1
        exact (((Kept.refl [] w).drew.alloc _).cell (p := ⟨g2, j, none⟩) hlt (by simp)).trans hu
/-- The same as a step of a region whose order is left open. -/
theorem step_append_keep {ops : Array Oper} {o : Oper} {a : Act} {K : Act → World → Prop} {Q : Exit → Act → World → Prop} {E : Prop} (hgd : o.guard = none) (s x : Operand) (t : TypeId)
    (ho : o.op = .call { callee := .builtin .append, args := #[s, x], argTypes := #[t, t] })
    (e : TypeId) (i : TypeInfo) (z : Value) (bytes : Nat) (ht : P.underlying t = some (.slice e)) (hi : P.info? e = some i) (hz : i.zero = some z)
    (hsize : i.size = 1) (hby : i.bytes = bytes) (hzs : z.cells.size = 1)
    (v : Value) (xs : List Value) (hs : a.eval s = v) (hown : OwV e w v xs)
    (A : Option Addr) (m c : Nat) (news : List Value) (hx : a.eval x = .slice A m c) (hr : RdV w A m c news) (h1 : ∀ u ∈ news, u.oneCell' = true)
    (h63 : xs.length + m ≤ maxLen) (hbytes : (xs.length + m) * bytes ≤ 140737488355328)
    (h : ∀ v' w', OwV e w' v' (xs ++ news) → Kept v.ownBlock.toList w w' → Moved w v v' → (∀ g j u, v.ownBlock = some g → j < xs.length → w.cell? ⟨g, j, none⟩ = some u → w'.cell? ⟨g, j, none⟩ = some u) → K (a.put o.dst v') w') :
    if Region.wanted o (yielded ops a.tmps) = true then Oper.wp P o a w K Q else E := by
  have hw : Region.wanted o (yielded ops a.tmps) = true := by simp [Region.wanted, hgd]
  rw [if_pos hw]
  obtain ⟨v', w', hrun, h2, h3, h4⟩ := run_append_vals (P := P) (w := w) t o.type e i z bytes ht hi hz hsize hby hzs hown hr h1 h63 hbytes
  have h5 := append_keeps t o.type e i z bytes ht hi hz hsize hby hown hr h1 h63 hbytes hrun
  unfold Oper.wp execOp
  simp only [ho, resolve, invoke, builtin, Sem.run_bind, Sem.run_pure, Result.andThen_ok, List.map_toArray, List.map_cons, List.map_nil, hs, hx, hrun]
  exact h v' w' h2 h3 h4 h5
end
end Go.Proofs.YtmhigipljplgdaaDoor
/-
  Helper words on memory, going on: slices of texts ('RdL'). No statement of the seed is proved here.
-/
namespace Go.Proofs.YtmhigipljplgdaaDoor
open Go.RowKit
set_option linter.unusedVariables false

theorem RdB.keptNew {w w' : World} {A : Option Addr} {n c : Nat} {bs : List UInt8} {S : List Nat} (h : RdB w A n c bs) (hk : Kept S w w') (hS : ∀ k, k ∈ S → w.heap.size ≤ k) : RdB w' A n c bs :=
  h.keep fun b _ _ hb => hk.block b hb (fun hm => by have := hS b hm; omega)
/-- A slice of byte slices reads as these texts. -/
structure RdL (w : World) (A : Option Addr) (n c : Nat) (ls : List (List UInt8)) : Prop where
  len : ls.length = n
  cap : n ≤ c
  most : c ≤ maxLen
  cells : 0 < n → ∃ b off, A = some ⟨b, off, none⟩ ∧ b < w.heap.size ∧ ∀ j, (h : j < ls.length) → ∃ Aj nj cj, w.cell? ⟨b, off + j, none⟩ = some (.slice Aj nj cj) ∧ RdB w Aj nj cj ls[j]
theorem RdL.keptNew {w w' : World} {A : Option Addr} {n c : Nat} {ls : List (List UInt8)} {S : List Nat} (h : RdL w A n c ls) (hk : Kept S w w') (hS : ∀ k, k ∈ S → w.heap.size ≤ k) : RdL w' A n c ls :=
  ⟨h.len, h.cap, h.most, fun hn => by
    obtain ⟨b, off, e, hb, hc⟩ := h.cells hn
    refine ⟨b, off, e, Nat.lt_of_lt_of_le hb hk.size, fun j hj => ?_⟩
    obtain ⟨Aj, nj, cj, h1, h2⟩ := hc j hj
    exact ⟨Aj, nj, cj, (hk.cell (p := ⟨b, off + j, none⟩) hb (fun hm => by have := hS b hm; omega)).trans h1, h2.keptNew hk hS⟩⟩
theorem RdL.kept0 {w w' : World} {A : Option Addr} {n c : Nat} {ls : List (List UInt8)} (h : RdL w A n c ls) (hk : Kept [] w w') : RdL w' A n c ls := h.keptNew hk (by simp)
theorem RdL.at_ {w : World} {A : Option Addr} {n c : Nat} {ls : List (List UInt8)} (h : RdL w A n c ls) {k : Nat} (hk : k < n) : ∃ b off Ak nk ck l, A = some ⟨b, off, none⟩ ∧ b < w.heap.size ∧ w.cell? ⟨b, off + k, none⟩ = some (.slice Ak nk ck) ∧ ls[k]? = some l ∧ RdB w Ak nk ck l := by
  obtain ⟨b, off, e, hb, hc⟩ := h.cells (by omega)
  have hl := h.len
  obtain ⟨Ak, nk, ck, h1, h2⟩ := hc k (by omega)
  exact ⟨b, off, Ak, nk, ck, _, e, hb, h1, List.getElem?_eq_getElem (by omega), h2⟩
theorem RdL.nil (w : World) : RdL w none 0 0 [] := ⟨rfl, Nat.le_refl _, by simp [maxLen], fun h => absurd h (by omega)⟩
theorem RdL.one {w : World} {A : Option Addr} {n c : Nat} {bs : List UInt8} (e : TypeId) (h : RdB w A n c bs) : RdL (w.alloc (.cells #[.slice A n c] e)) (some ⟨w.heap.size, 0, none⟩) 1 1 [bs] := by
  refine ⟨rfl, Nat.le_refl _, by simp [maxLen], fun _ => ⟨w.heap.size, 0, rfl, by simp, fun j hj => ?_⟩⟩
  have hj0 : j = 0 := by simpa using hj
  subst hj0
  refine ⟨A, n, c, ?_, h.alloc _⟩
  rw [cell_of_row _ _ _ _ _ _ (heap_alloc_new w _)]
  rfl
theorem RdL.two {w : World} {A1 A2 : Option Addr} {n1 n2 c1 c2 : Nat} {b1 b2 : List UInt8} (e : TypeId) (h1 : RdB w A1 n1 c1 b1) (h2 : RdB w A2 n2 c2 b2) :
    RdL (w.alloc (.cells #[.slice A1 n1 c1, .slice A2 n2 c2] e)) (some ⟨w.heap.size, 0, none⟩) 2 2 [b1, b2] := by
  refine ⟨rfl, Nat.le_refl _, by simp [maxLen], fun _ => ⟨w.heap.size, 0, rfl, by simp, fun j hj => ?_⟩⟩
  have hj3 : j = 0 ∨ j = 1 := by simp at hj; omega
  rcases hj3 with rfl | rfl
  · exact ⟨A1, n1, c1, by rw [cell_of_row _ _ _ _ _ _ (heap_alloc_new w _)]; rfl, h1.alloc _⟩
  · exact ⟨A2, n2, c2, by rw [cell_of_row _ _ _ _ _ _ (heap_alloc_new w _)]; rfl, h2.alloc _⟩
end Go.Proofs.YtmhigipljplgdaaDoor
/-
  Lists of texts: cells and what they read as; how they come in. No statement of the seed is proved here.
-/
namespace Go.Proofs.YtmhigipljplgdaaDoor
open Go.ChangeShapes Go.WideShapes Go.ChangeAt Go.RowKit
set_option linter.unusedVariables false

/-- A cell that holds a text. -/
def TxtV (w : World) (v : Value) (l : List UInt8) : Prop := ∃ A n c, v = .slice A n c ∧ RdB w A n c l
/-- Cells that hold texts. -/
def TxtVs (w : World) (vs : List Value) (ls : List (List UInt8)) : Prop := vs.length = ls.length ∧ ∀ (j : Nat) (v : Value) (l : List UInt8), vs[j]? = some v → ls[j]? = some l → TxtV w v l
section
variable {w w' : World} {A : Option Addr} {n c : Nat} {vs us : List Value} {ls ms : List (List UInt8)} {S : List Nat}
theorem TxtVs.keptNew (h : TxtVs w vs ls) (hk : Kept S w w') (hS : ∀ k, k ∈ S → w.heap.size ≤ k) : TxtVs w' vs ls :=
  ⟨h.1, fun j v l hv hl => by
    obtain ⟨A, n, c, e, hr⟩ := h.2 j v l hv hl
    exact ⟨A, n, c, e, hr.keptNew hk hS⟩⟩
theorem TxtVs.kept0 (h : TxtVs w vs ls) (hk : Kept [] w w') : TxtVs w' vs ls := h.keptNew hk (by simp)
theorem TxtVs.append (h : TxtVs w vs ls) (k : TxtVs w us ms) : TxtVs w (vs ++ us) (ls ++ ms) :=
  ⟨by rw [List.length_append, List.length_append, h.1, k.1], fun j v l hv hl => by
    rw [List.getElem?_append] at hv hl
    have := h.1
    split at hv
    · rw [if_pos (by omega)] at hl
      exact h.2 j v l hv hl
    · rw [if_neg (by omega), ← this] at hl
      exact k.2 _ v l hv hl⟩
theorem TxtVs.take (h : TxtVs w vs ls) (k : Nat) : TxtVs w (vs.take k) (ls.take k) :=
  ⟨by rw [List.length_take, List.length_take, h.1], fun j v l hv hl => by
    rw [List.getElem?_take] at hv hl
    split at hv
    · rename_i hj
      rw [if_pos hj] at hl
      exact h.2 j v l hv hl
    · cases hv⟩
theorem TxtVs.drop (h : TxtVs w vs ls) (k : Nat) : TxtVs w (vs.drop k) (ls.drop k) :=
  ⟨by rw [List.length_drop, List.length_drop, h.1], fun j v l hv hl => by
    rw [List.getElem?_drop] at hv hl
    exact h.2 _ v l hv hl⟩
theorem TxtVs.one {v : Value} {l : List UInt8} (h : TxtV w v l) : TxtVs w [v] [l] :=
  ⟨rfl, fun j x y hv hl => by
    rcases j with _ | j
    · simp at hv hl
      subst hv hl
      exact h
    · simp at hv⟩
theorem TxtVs.cells (h : TxtVs w vs ls) : ∀ u ∈ vs, u.oneCell' = true := by
  intro u hu
  obtain ⟨j, hj⟩ := List.mem_iff_getElem?.1 hu
  have hl := h.1
  have hjl : j < ls.length := by have := (List.getElem?_eq_some_iff.1 hj).1; omega
  obtain ⟨A, n, c, rfl, _⟩ := h.2 j u _ hj (List.getElem?_eq_getElem hjl)
  rfl
theorem RdL.vals (h : RdL w A n c ls) : ∃ vs, RdV w A n c vs ∧ TxtVs w vs ls := by
  have hl := h.len
  rcases Nat.eq_zero_or_pos n with h0 | h0
  · subst h0
    have : ls = [] := List.eq_nil_of_length_eq_zero hl
    subst this
    exact ⟨[], ⟨rfl, h.cap, h.most, fun hp => absurd hp (by omega)⟩, rfl, fun j v l hv => by simp at hv⟩
  · obtain ⟨b, off, e, hb, hc⟩ := h.cells h0
    obtain ⟨vs, hvl, hv⟩ := list_of (n := n) (R := fun j v => w.cell? ⟨b, off + j, none⟩ = some v ∧ ∀ l, ls[j]? = some l → TxtV w v l) (fun i hi => by
      obtain ⟨Aj, nj, cj, h1, h2⟩ := hc i (by omega)
      refine ⟨.slice Aj nj cj, h1, fun l hl => ⟨Aj, nj, cj, rfl, ?_⟩⟩
      rw [List.getElem?_eq_getElem (by omega)] at hl
      injection hl with hl
      rw [← hl]; exact h2)
    refine ⟨vs, ⟨hvl, h.cap, h.most, fun _ => ⟨b, off, e, fun j hj => (hv j hj).1⟩⟩, by omega, fun j v l h1 h2 => ?_⟩
    obtain ⟨hj, rfl⟩ := List.getElem?_eq_some_iff.1 h1
    exact (hv j hj).2 l h2
theorem RdL.of_vals (h : RdV w A n c vs) (ht : TxtVs w vs ls) : RdL w A n c ls := by
  have hl := h.len
  have h2 := ht.1
  refine ⟨by omega, h.cap, h.most, fun hp => ?_⟩
  obtain ⟨b, off, e, hb, hc⟩ := h.at_ hp
  refine ⟨b, off, e, hb, fun j hj => ?_⟩
  obtain ⟨Aj, nj, cj, e1, hr⟩ := ht.2 j vs[j] ls[j] (List.getElem?_eq_getElem (by omega)) (List.getElem?_eq_getElem hj)
  exact ⟨Aj, nj, cj, by rw [hc j (by omega), e1], hr⟩
end

set_option maxRecDepth 100000 in
theorem rdl_of_trod {H : Type} {enc : TypeId × Value → H} {W : World} {base b0 : Nat} {sp : Nat → Bool} {held : Bool} {r : Reach} {v : Value} {d : DataW H} {p : List MemPlace}
    (hv : Value.okWide Tryd.prog W r b0 64 v) (h : DataW.Trod enc Tryd.prog W base sp held 64 v d p) : ∃ A n c ls, v = .slice A n c ∧ RdL W A n c ls := by
  obtain ⟨A0, n0, c0, rfl⟩ := okWide_slice Tryd.underlying64 hv
  have hC : Tryd.prog.cellsOf 53 = 1 := by kernel_rfl
  have hC5 : Tryd.prog.cellsOf 5 = 1 := by kernel_rfl
  obtain ⟨fuel, hf⟩ := h
  obtain ⟨A, len, cap, hcs, hl, hm, hall⟩ := slice_elems Tryd.underlying64 (by omega) hf
  simp [Value.cells] at hcs
  obtain ⟨rfl, rfl, rfl⟩ := hcs
  rcases Nat.eq_zero_or_pos n0 with h0 | h0
  · subst h0
    exact ⟨A0, 0, c0, [], rfl, rfl, hl, hm, fun hp => absurd hp (by omega)⟩
  · obtain ⟨b, off, rfl, hel⟩ := hall h0
    rw [hC] at hel
    obtain ⟨ls, hll, hR⟩ := list_of (n := n0) (R := fun i l => ∃ Aj nj cj, W.cell? ⟨b, off + i, none⟩ = some (.slice Aj nj cj) ∧ RdB W Aj nj cj l) (fun i hi => by
      obtain ⟨cs, m, z, hcl, hcell, htr⟩ := hel i hi
      obtain ⟨Aj, nj, cj, bs, hcs, hrb⟩ := leaf_bytes Tryd.underlying53 Tryd.underlying5 hC5 htr
      subst hcs
      have h1 := hcell 0 (by omega)
      rw [Nat.mul_one, Nat.add_zero] at h1
      exact ⟨bs, Aj, nj, cj, h1, hrb⟩)
    obtain ⟨Aj, nj, cj, h1, _⟩ := hR 0 (by omega)
    exact ⟨_, n0, c0, ls, rfl, hll, hl, hm, fun _ => ⟨b, off, rfl, World.block_lt_of_cell? W _ h1, fun j hj => hR j hj⟩⟩
end Go.Proofs.YtmhigipljplgdaaDoor
/-
  A result that lies in a variable, beside a plain one. No statement of the seed is proved here.
-/
namespace Go.Proofs.YtmhigipljplgdaaDoor
open Go.RowKit
set_option linter.unusedVariables false

theorem results_blk2 {P : Program} {w : World} {fn : Func} {p u : Tmp} {ty : TypeId} (h : fn.results = #[.cell p ty, .tmp u]) (tmps : Array Value) (g : Nat) (t : TypeId) (cs : List Value) (d : TypeDesc) (v : Value)
    (hp : tmps.getD p undef = .pointer (some ⟨g, 0, none⟩)) (hv : tmps.getD u undef = v) (hg : Blk w g t cs)
    (hu : P.underlying ty = some d) (hd : d.isRow = true) (hi : (P.info? ty).map (·.size) = some cs.length) :
    (results fn tmps).run P w = .ok (.tuple #[.agg cs.toArray, v]) w := by
  have hp' : tmps[p]?.getD undef = .pointer (some ⟨g, 0, none⟩) := by simpa using hp
  have hv' : tmps[u]?.getD undef = v := by simpa using hv
  simp [results, h, hp', hv', asAddr, run_loadVar_row w g t ty cs.toArray (0, 0) d hg hu (by cases d <;> simp_all [TypeDesc.isRow]) (by simpa using hi)]

end Go.Proofs.YtmhigipljplgdaaDoor
/-
  How an array of bytes that came in as an argument is read. No statement of the seed is proved here.
-/
namespace Go.Proofs.YtmhigipljplgdaaDoor
open Go.ChangeShapes Go.WideShapes Go.ChangeAt Go.RowKit
set_option linter.unusedVariables false

theorem okWide_array {P : Program} {w : World} {r : Reach} {base : Nat} {t e : TypeId} {n : Nat} {v : Value} (ht : P.underlying t = some (.array n e)) (h : Value.okWide P w r base t v) : ∃ cs, v = .agg cs ∧ cs.size = P.cellsOf t := by
  unfold Value.okWide at h
  simp only [ht] at h
  cases v <;> simp_all
theorem bytes_of_trod {H : Type} {enc : TypeId × Value → H} {P : Program} {W : World} {t e : TypeId} {n base b0 : Nat} {sp : Nat → Bool} {held : Bool} {r : Reach} {v : Value} {d : DataW H} {p : List MemPlace}
    (ht : P.underlying t = some (.array n e)) (he : P.underlying e = some (.int .u8)) (hc : P.cellsOf e = 1) (hn : P.cellsOf t = n)
    (hv : Value.okWide P W r b0 t v) (h : DataW.Trod enc P W base sp held t v d p) : ∃ bs : List UInt8, v = .agg (bvs bs).toArray ∧ bs.length = n := by
  obtain ⟨cs, rfl, hsz⟩ := okWide_array ht hv
  obtain ⟨fuel, hf⟩ := h
  obtain ⟨xs, m, _, _, hlen, hxl, hel⟩ := DataW.trod_array ht hf
  obtain ⟨bs, hbl, hR⟩ := list_of (n := n) (R := fun i b => cs.toList[i]? = some (bcell b)) (fun i hi => by
    have h1 := hel i hi
    rw [List.getElem?_eq_getElem (by omega)] at h1
    obtain ⟨z, e1, e2, hw⟩ := DataW.trod_int he h1
    rw [hc, Nat.mul_one] at e1
    have h4 : (cs.toList.drop i).take 1 = [.int .u8 z] := e1
    have h5 := congrArg (fun l : List Value => l[0]?) h4
    simp only [List.getElem?_take, List.getElem?_drop] at h5
    refine ⟨UInt8.ofNat z.toNat, ?_⟩
    unfold bcell
    rw [← zs_byte z hw]
    simpa using h5)
  refine ⟨bs, ?_, hbl⟩
  congr 1
  apply Array.ext'
  apply List.ext_getElem
  · rw [Array.length_toList, hsz, hn, List.toList_toArray, bvs_length, hbl]
  · intro i h1 h2
    have hi : i < bs.length := by rw [List.toList_toArray, bvs_length] at h2; exact h2
    have h3 := hR i hi
    rw [List.getElem?_eq_getElem h1] at h3
    rw [Option.some.inj h3]
    simp [bvs]
end Go.Proofs.YtmhigipljplgdaaDoor
/-
  Contracts of the small functions of layer 2 (sha): a word turned, a word of bytes. No statement of the seed is proved here.
-/
namespace Go.Proofs.YtmhigipljplgdaaDoor
open Go.RowKit
set_option linter.unusedVariables false

theorem turn_any (x : W32) (n : Nat) (w : World) (h1 : 1 ≤ n) (h2 : n < 32) :
    Calls Tryd.prog 37 #[.int .u32 (wv x), .int .i64 n] w fun e w' => e = .returned (.int .u32 (wv (rotr x n))) ∧ ∃ m, w' = w.drewN m := by
  have b0 := wv_nonneg x
  have b1 := wv_lt x
  go_enter Tryd.func37, Tryd.ntmps37
  go_wp2
  go_quiet (fail)
  go_wp2
  go_ret
  exact ⟨ret_int (by rw [wv_shr, wv_shl, bits_orW]; rfl), nq, rfl⟩
theorem turn_at (x : W32) (n : Nat) (z : Int) (w : World) (hz : z = (n : Int)) (h1 : 1 ≤ n) (h2 : n < 32) :
    Calls Tryd.prog 37 #[.int .u32 (wv x), .int .i64 z] w fun e w' => e = .returned (.int .u32 (wv (rotr x n))) ∧ ∃ m, w' = w.drewN m := by
  subst hz; exact turn_any x n w h1 h2

theorem word_any (A : Option Addr) (n c : Nat) (bs : List UInt8) (w : World) (hr : RdB w A n c bs) (hn : 4 ≤ n) :
    Calls Tryd.prog 39 #[.slice A n c] w fun e w' => e = .returned (.int .u32 (wv (wd bs))) ∧ ∃ m, w' = w.drewN m := by
  obtain ⟨b0, off, y0, rfl, c0, h0, l0⟩ := hr.byte (k := 0) (by omega)
  obtain ⟨_, _, y1, e1, c1, h1, l1⟩ := hr.byte (k := 1) (by omega)
  obtain ⟨rfl, rfl⟩ : _ ∧ _ := by simpa using e1
  obtain ⟨_, _, y2, e2, c2, h2, l2⟩ := hr.byte (k := 2) (by omega)
  obtain ⟨rfl, rfl⟩ : _ ∧ _ := by simpa using e2
  obtain ⟨_, _, y3, e3, c3, h3, l3⟩ := hr.byte (k := 3) (by omega)
  obtain ⟨rfl, rfl⟩ : _ ∧ _ := by simpa using e3
  have hw4 : wd bs = wd [y0, y1, y2, y3] := by
    match bs, h0, h1, h2, h3 with
    | a :: b :: c :: d :: r, h0, h1, h2, h3 =>
      simp at h0 h1 h2 h3
      subst h0 h1 h2 h3
      simp [wd]
  have hcap := hr.cap
  rw [hw4]
  rw [Nat.add_zero] at c0
  clear e1 e2 e3 h0 h1 h2 h3 hw4
  go_enter Tryd.func39, Tryd.ntmps39
  go_wp2
  go_quiet (fail)
  go_wp2
  go_ret
  exact ⟨ret_int (word4 _ _ _ _), nq, rfl⟩
end Go.Proofs.YtmhigipljplgdaaDoor
/-
  Contract of the function that tells a word in four bytes, layer 2 (sha). No statement of the seed is proved here.
-/
namespace Go.Proofs.YtmhigipljplgdaaDoor
open Go.RowKit
set_option linter.unusedVariables false

theorem putWord_any (g off n c : Nat) (t : TypeId) (cs : List Value) (x : W32) (w : World) (hb : Blk w g t cs) (hn : 4 ≤ n) (hc : n ≤ c) (ho : off + 4 ≤ cs.length) :
    Calls Tryd.prog 33 #[.slice (some ⟨g, off, none⟩) n c, .int .u32 (wv x)] w (SetRet g t (splice cs off (bvs (be 4 x.toNat))) w) := by
  have hl4 := be_length 4 x.toNat
  have b0 := wv_nonneg x
  have b1 := wv_lt x
  go_enter Tryd.func33, Tryd.ntmps33
  go_wp2
  go_loopw [5] (fun i wr => ∃ k : Nat, k ≤ 4 ∧ i = .int .i64 k ∧ Blk wr g t (splice cs off (bvs ((be 4 x.toNat).take k))) ∧ Kept [g] w wr) (fun i _ => 4 - (intOf i).toNat)
  case atStart => exact ⟨0, by omega, rfl, by simpa [bvs, splice_nil] using hb, Kept.refl _ _⟩
  case round =>
    obtain ⟨k, hk, rfl, hB, hK⟩ := hrel
    by_cases hlt : k < 4
    · have hlen : (bvs ((be 4 x.toNat).take k)).length = k := by rw [bvs_length, List.length_take]; omega
      have hsl := length_splice cs off (bvs ((be 4 x.toNat).take k)) (by omega)
      have c1 := hB.cellD (off + k) (by omega)
      generalize (splice cs off (bvs ((be 4 x.toNat).take k)))[off + k]'(by omega) = u at c1
      have f1 := hB.frz (off + k)
      have hnew := hB.set (off + k) (bcell (UInt8.ofNat (x.toNat / 2 ^ (24 - 8 * k))))
      have hsn := splice_snoc cs off (bvs ((be 4 x.toNat).take k)) (bcell (UInt8.ofNat (x.toNat / 2 ^ (24 - 8 * k)))) (by omega)
      rw [hlen] at hsn
      rw [hsn] at hnew
      have htk : bvs ((be 4 x.toNat).take k) ++ [bcell (UInt8.ofNat (x.toNat / 2 ^ (24 - 8 * k)))] = bvs ((be 4 x.toNat).take (k + 1)) := by
        rw [take_step _ k _ (be4_get _ k hlt), bvs_append]; rfl
      rw [htk] at hnew
      have hbw := byteW x (24 - 8 * k)
      have hbc : bcell (UInt8.ofNat (x.toNat / 2 ^ (24 - 8 * k))) = .int .u8 (wv x / 2 ^ (24 - 8 * k) % 256) := by unfold bcell; rw [hbw]
      rw [hbc] at hnew
      have hkn : Kept [g] w (wr.setCell ⟨g, off + k, none⟩ (.int .u8 (wv x / 2 ^ (24 - 8 * k) % 256))) := hK.setCell (by simp) _
      clear hlen hsl hsn htk hbw hbc hB hb
      go_wp2
      go_roundw
      case rel => exact ⟨k + 1, by omega, by go_num, hnew, hkn⟩
      case measure => simp [intOf]; omega
    · obtain rfl : k = 4 := by omega
      rw [List.take_of_length_le (by omega)] at hB
      go_wp2
      go_end0
      exact ⟨rfl, hB, hK⟩
end Go.Proofs.YtmhigipljplgdaaDoor
/-
  Contract of the function that makes a block's sixty-four words, layer 2 (sha). No statement of the seed is proved here.
-/
namespace Go.Proofs.YtmhigipljplgdaaDoor
open Go.RowKit
set_option linter.unusedVariables false

/-- The cells of a digest under way. -/
def wkc (s : St) (blk : List UInt8) (held len : Int) : List Value := wvs s.l ++ (bvs blk ++ [.int .i64 held, .int .u64 len])
theorem wkc_length (s : St) (blk : List UInt8) (held len : Int) (hb : blk.length = 64) : (wkc s blk held len).length = 74 := by simp [wkc, wvs, bvs, St.l, hb]

theorem wkc_block (s : St) (blk : List UInt8) (held len : Int) (j : Nat) (hb : blk.length = 64) (hj : j ≤ 64) : ((wkc s blk held len).drop (8 + j)).take (64 - j) = bvs (blk.drop j) := by
  have e8 : (wvs s.l).length = 8 := rfl
  rw [wkc, List.drop_append, List.drop_of_length_le (by omega), List.nil_append, e8, Nat.add_sub_cancel_left, List.drop_append_of_le_length (by rw [bvs_length]; omega)]
  rw [List.take_append_of_le_length (by rw [List.length_drop, bvs_length]; omega), List.take_of_length_le (by rw [List.length_drop, bvs_length]; omega)]
  simp [bvs, List.map_drop]
theorem arr64b : Tryd.prog.underlying 66 = some (.array 64 5) := by kernel_rfl
theorem size1b : (Tryd.prog.info? 5).map (·.size) = some 1 := by kernel_rfl
theorem size64 : (Tryd.prog.info? 81).map (·.size) = some 64 := by kernel_rfl

/-- A row of words, filled from its head on. -/
def fill0 (l : List W32) : List Value := wvs l ++ List.replicate (64 - l.length) (.int .u32 0)
theorem fill0_length (l : List W32) (h : l.length ≤ 64) : (fill0 l).length = 64 := by simp [fill0, wvs]; omega
theorem fill0_set (l : List W32) (x : W32) (h : l.length < 64) : (fill0 l).set l.length (.int .u32 (wv x)) = fill0 (l ++ [x]) := by
  unfold fill0
  rw [List.set_append_right _ _ (by rw [wvs_length]; exact Nat.le_refl _), wvs_length, Nat.sub_self]
  have e : 64 - l.length = (64 - (l ++ [x]).length) + 1 := by rw [List.length_append, List.length_singleton]; omega
  rw [e, List.replicate_succ, List.set_cons_zero, wvs_append, List.append_assoc]
  rfl
theorem fill0_get (l : List W32) (j : Nat) (h : j < l.length) : (fill0 l)[j]? = some (.int .u32 (wv (l.getD j 0))) := by
  unfold fill0
  rw [List.getElem?_append_left (by rw [wvs_length]; exact h), wvs_get l j h]
theorem fill0_full (l : List W32) (h : l.length = 64) : fill0 l = wvs l := by simp [fill0, h]

theorem zero64 : (Tryd.prog.info? 81).bind (·.zero) = some (.agg (fill0 []).toArray) := by kernel_rfl
set_option maxRecDepth 100000 in
set_option maxHeartbeats 800000 in
theorem words_any (p : Nat) (s : St) (blk : List UInt8) (held len : Int) (w : World) (hb : Blk w p 68 (wkc s blk held len)) (h64 : blk.length = 64) :
    Calls Tryd.prog 36 #[.pointer (some ⟨p, 0, none⟩)] w (AggRet (words64 blk) w) := by
  have hplt := hb.lt
  go_enter Tryd.func36, Tryd.ntmps36
  go_wp2_with (with_reducible change wpList _ _ _ (⟨_, Op.alloc _, _, _, _, _⟩ :: _) _ _; refine wpList_alloc_blk rfl 81 rfl _ zero64 ?_)
  intro w1 hR1 hk1 hs1
  go_wp2_with (with_reducible change wpList _ _ _ (⟨_, Op.alloc _, _, _, _, _⟩ :: _) _ _; refine wpList_alloc_blk rfl 81 rfl _ zero64 ?_)
  intro w2 hG2 hk2 hs2
  have hR2 := hR1.kept0 hk2
  have hK2 := hk1.andThen hk2
  clear hR1 hk1 hk2 hs2
  go_wp2
  go_loopw [8] (fun i wr => ∃ k : Nat, k ≤ 16 ∧ i = .int .i64 k ∧ Blk wr (w.heap.size + 1) 81 (fill0 (first16 blk k)) ∧ Blk wr w.heap.size 81 (fill0 []) ∧ Kept [] w wr) (fun i _ => 16 - (intOf i).toNat)
  case atStart => exact ⟨0, by omega, rfl, hG2, hR2, hK2⟩
  case round =>
    obtain ⟨k, hk, rfl, hG, hR, hK⟩ := hrel
    by_cases hlt : k < 16
    · have hbw := hb.kept0 hK
      have hrd : RdB wr (some ⟨p, 8 + 4 * k, none⟩) (64 - 4 * k) (64 - 4 * k) (blk.drop (4 * k)) := by
        refine hbw.rdb _ _ _ _ ?_ (by rw [List.length_drop]; omega) (Nat.le_refl _) (by simp only [maxLen]; omega)
        exact wkc_block s blk held len (4 * k) h64 (by omega)
      have hcut := run_cut_from (P := Tryd.prog) 66 5 64 p 8 .i64 (4 * k) (4 * (k : Int)) arr64b size1b (by omega) (by omega)
      have hl := first16_length blk k
      have hfl := fill0_length (first16 blk k) (by omega)
      have c1 := hG.cellD k (by omega)
      generalize (fill0 (first16 blk k))[k]'(by omega) = u at c1
      have f1 := hG.frz k
      have hnew := hG.set k (.int .u32 (wv (wd (blk.drop (4 * k)))))
      have hset := fill0_set (first16 blk k) (wd (blk.drop (4 * k))) (by omega)
      rw [hl] at hset
      rw [hset] at hnew
      have hRn := hR.set_other (b := w.heap.size + 1) k (.int .u32 (wv (wd (blk.drop (4 * k))))) (by omega)
      have hKn : Kept [] w (wr.setCell ⟨w.heap.size + 1, k, none⟩ (.int .u32 (wv (wd (blk.drop (4 * k)))))) := hK.setCell (by simp) _
      clear hbw hset hfl hl hR hb
      go_wp2_with fail
      refine (word_any _ _ _ _ _ hrd (by omega)).mono ?_
      rintro e w3 ⟨rfl, m, rfl⟩
      go_wp2
      go_roundw
      case rel => exact ⟨k + 1, by omega, by go_num, hnew, hRn, hKn.drewN m⟩
      case measure => simp [intOf]; omega
    · obtain rfl : k = 16 := by omega
      have hG0 : Blk wr (w.heap.size + 1) 81 (fill0 (wordsN blk 0)) := hG
      clear hG hG2 hR2 hK2
      go_wp2
      rw [show ((16 : Nat) : Int) = 16 from rfl]
      go_loopw [5] (fun i wr => ∃ j n : Nat, Hid (j = 16 + n) ∧ 16 ≤ j ∧ j ≤ 64 ∧ i = .int .i64 (j : Int) ∧ Blk wr (w.heap.size + 1) 81 (fill0 (wordsN blk n)) ∧ Blk wr w.heap.size 81 (fill0 []) ∧ Kept [] w wr) (fun i _ => 64 - (intOf i).toNat)
      case atStart => exact ⟨16, 0, Lib.hid rfl, by omega, by omega, rfl, hG0, hR, hK⟩
      case round =>
        clear hG0 hR hK
        obtain ⟨j, n, Hj, hj16, hj64, rfl, hG, hR, hK⟩ := hrel
        have hjn := Hj.out
        by_cases hlt : j < 64
        · have hl := wordsN_length blk n
          obtain ⟨a, ha⟩ : ∃ a : Nat, a = n := ⟨_, rfl⟩
          obtain ⟨b, hbb⟩ : ∃ a : Nat, a = n + 1 := ⟨_, rfl⟩
          obtain ⟨c, hc⟩ : ∃ a : Nat, a = n + 9 := ⟨_, rfl⟩
          obtain ⟨d, hd⟩ : ∃ a : Nat, a = n + 14 := ⟨_, rfl⟩
          have c16 := (hG.cell a).trans (fill0_get (wordsN blk n) a (by omega))
          have c15 := (hG.cell b).trans (fill0_get (wordsN blk n) b (by omega))
          have c7 := (hG.cell c).trans (fill0_get (wordsN blk n) c (by omega))
          have c2 := (hG.cell d).trans (fill0_get (wordsN blk n) d (by omega))
          have hx : nextW (wordsN blk n) (16 + n) = (wordsN blk n).getD a 0 + sS0 ((wordsN blk n).getD b 0) + (wordsN blk n).getD c 0 + sS1 ((wordsN blk n).getD d 0) := by
            unfold nextW
            rw [ha, hbb, hc, hd]
            rw [show 16 + n - 16 = n by omega, show 16 + n - 15 = n + 1 by omega, show 16 + n - 7 = n + 9 by omega, show 16 + n - 2 = n + 14 by omega]
          have Hx := Lib.hid hx
          clear hx
          generalize (wordsN blk n).getD a 0 = xa at c16 Hx
          generalize (wordsN blk n).getD b 0 = xb at c15 Hx
          generalize (wordsN blk n).getD c 0 = xc at c7 Hx
          generalize (wordsN blk n).getD d 0 = xd at c2 Hx
          have q16 : IntKind.i64.wrap ((j : Int) - 16) = (a : Int) := by rw [IntWalk.i64_in _ (by omega)]; omega
          have q15 : IntKind.i64.wrap ((j : Int) - 15) = (b : Int) := by rw [IntWalk.i64_in _ (by omega)]; omega
          have q7 : IntKind.i64.wrap ((j : Int) - 7) = (c : Int) := by rw [IntWalk.i64_in _ (by omega)]; omega
          have q2 : IntKind.i64.wrap ((j : Int) - 2) = (d : Int) := by rw [IntWalk.i64_in _ (by omega)]; omega
          have la : (a : Int) < 64 := by omega
          have lb : (b : Int) < 64 := by omega
          have lc : (c : Int) < 64 := by omega
          have ld : (d : Int) < 64 := by omega
          have Hl := Lib.hid hl
          clear hl ha hbb hc hd hjn
          go_wp2
          go_quiet (fail)
          have rx : ∀ x y : W32, bits .xor .u32 (wv x) (wv y) = wv (x ^^^ y) := bits_xorW
          have rw1 : ∀ x y : W32, IntKind.u32.wrap (wv x + wv y) = wv (x + y) := fun x y => (IntKind.wrap_u32' _).trans (wv_add x y)
          have rw2 : ∀ x y : W32, (wv x + wv y) % 4294967296 = wv (x + y) := wv_add
          go_wp2_with fail
          refine (turn_at _ 7 _ _ rfl (by omega) (by omega)).mono ?_
          rintro e w' ⟨rfl, m1, rfl⟩
          go_wp2_with fail
          refine (turn_at _ 18 _ _ rfl (by omega) (by omega)).mono ?_
          rintro e w' ⟨rfl, m2, rfl⟩
          go_wp2_with fail
          refine (turn_at _ 17 _ _ rfl (by omega) (by omega)).mono ?_
          rintro e w' ⟨rfl, m3, rfl⟩
          go_wp2_with fail
          refine (turn_at _ 19 _ _ rfl (by omega) (by omega)).mono ?_
          rintro e w' ⟨rfl, m4, rfl⟩
          have hfl := fill0_length (wordsN blk n) (by have := Hl.out; have := Hj.out; omega)
          go_wp2
          rw [wv_shr3 xb, wv_shr10 xd, rx, rx]
          obtain ⟨wq, hwq⟩ : ∃ wq, wq = wr.drewN (nq + m1 + m2 + m3 + m4) := ⟨_, rfl⟩
          have hGq : Blk wq (w.heap.size + 1) 81 (fill0 (wordsN blk n)) := by rw [hwq]; exact hG
          have hRq : Blk wq w.heap.size 81 (fill0 []) := by rw [hwq]; exact hR
          have hKq : Kept [] w wq := by rw [hwq]; exact hK.drewN _
          have d16 : wq.cell? ⟨w.heap.size + 1, a, none⟩ = some (.int .u32 (wv xa)) := by rw [hwq]; exact c16
          have d7 : wq.cell? ⟨w.heap.size + 1, c, none⟩ = some (.int .u32 (wv xc)) := by rw [hwq]; exact c7
          rw [← hwq]
          have f1 := hGq.frz j
          have cj := hGq.cellD j (by omega)
          generalize (fill0 (wordsN blk n))[j]'(by omega) = u at cj
          clear hwq hG hR hK c16 c15 c7 c2 hfl
          have hset := fill0_set (wordsN blk n) (xa + sS0 xb + xc + sS1 xd) (by have := Hl.out; have := Hj.out; omega)
          rw [Hl.out, ← Hj.out] at hset
          have hnew := hGq.set j (.int .u32 (wv (xa + sS0 xb + xc + sS1 xd)))
          rw [hset] at hnew
          have hRn := hRq.set_other (b := w.heap.size + 1) j (.int .u32 (wv (xa + sS0 xb + xc + sS1 xd))) (by omega)
          have hKn : Kept [] w (wq.setCell ⟨w.heap.size + 1, j, none⟩ (.int .u32 (wv (xa + sS0 xb + xc + sS1 xd)))) := hKq.setCell (by simp) _
          clear hset
          go_still_tail 15, (by kernel_rfl)
          change wpList _ _ _ _ _ wq.drew
          go_wp2
          go_roundw
          case rel => exact ⟨j + 1, n + 1, Lib.hid (by have := Hj.out; omega), by omega, by omega, by go_num, by rw [wordsN, Hx.out]; exact hnew, hRn, hKn.drewN 1⟩
          case measure => simp [intOf]; omega
        · obtain rfl : n = 48 := by omega
          have hl := words64_length blk
          rw [← words64_eq] at hG
          rw [fill0_full _ hl] at hG
          have hwl := wvs_length (words64 blk)
          rw [hl] at hwl
          have hone := wvs_one (words64 blk)
          obtain ⟨L, hL⟩ : ∃ L, L = wvs (words64 blk) := ⟨_, rfl⟩
          rw [← hL] at hG hwl hone
          have HL := Lib.hid hL
          have hi : (Tryd.prog.info? 81).map (·.size) = some L.length := by rw [hwl]; exact size64
          have H := Lib.hid hi
          have H2 := Lib.hid hwl
          have H3 := Lib.hid hone
          clear hl hwl hi hone hL
          go_wp2_with (first
            | (with_reducible change wpList _ _ _ (⟨_, Op.load _ _, _, _, _, _⟩ :: _) _ _; refine wpList_load_blk rfl 81 (.tmp 3) rfl (w.heap.size + 1) rfl 81 L _ hG Tryd.underlying81 rfl H.out ?_)
            | (with_reducible change wpList _ _ _ (⟨_, Op.store _ _ _, _, _, _, _⟩ :: _) _ _; refine wpList_store_blk rfl 81 (.tmp 2) (.tmp 64) rfl w.heap.size L rfl rfl 81 (fill0 []) hR H.out (by rw [H2.out]; exact fill0_length [] (by simp)) H3.out ?_))
          intro w5 hR5 hk5 hs5
          go_wp2
          refine bodyPost_ret (results_blk rfl _ w.heap.size 81 _ _ rfl hR5 Tryd.underlying81 rfl H.out) rfl ?_
          exact ⟨by rw [HL.out], hK.trans hk5 (by simp)⟩
end Go.Proofs.YtmhigipljplgdaaDoor
/-
  Contract of the function that turns a block into the state, layer 2 (sha). No statement of the seed is proved here.
-/
namespace Go.Proofs.YtmhigipljplgdaaDoor
open Go.RowKit
set_option linter.unusedVariables false

/-- The two tables that lie at package level. -/
def Glob (w : World) : Prop := (∀ k, k < 8 → w.cell? ⟨0, k, none⟩ = some (.int .u32 (wv (st0.l.getD k 0)))) ∧ (∀ k, k < 64 → w.cell? ⟨1, k, none⟩ = some (.int .u32 (wv (ks.getD k 0))))
theorem Glob.lt {w : World} (h : Glob w) : 0 < w.heap.size ∧ 1 < w.heap.size := ⟨World.block_lt_of_cell? w _ (h.1 0 (by omega)), World.block_lt_of_cell? w _ (h.2 0 (by omega))⟩
theorem Glob.kept {w w' : World} {S : List Nat} (h : Glob w) (hk : Kept S w w') (h0 : 0 ∉ S) (h1 : 1 ∉ S) : Glob w' := by
  have hl := h.lt
  exact ⟨fun k hh => (hk.cell (p := ⟨0, k, none⟩) hl.1 h0).trans (h.1 k hh), fun k hh => (hk.cell (p := ⟨1, k, none⟩) hl.2 h1).trans (h.2 k hh)⟩
theorem Glob.kept0 {w w' : World} (h : Glob w) (hk : Kept [] w w') : Glob w' := h.kept hk (by simp) (by simp)

theorem size8 : (Tryd.prog.info? 65).map (·.size) = some 8 := by kernel_rfl
theorem size8w (s : St) : (Tryd.prog.info? 65).map (·.size) = some (wvs s.l).length := by
  have : (wvs s.l).length = 8 := rfl
  rw [this]; exact size8
def z8 : List Value := List.replicate 8 (.int .u32 0)
theorem zero8 : (Tryd.prog.info? 65).bind (·.zero) = some (.agg z8.toArray) := by kernel_rfl
theorem wkc_head (s : St) (blk : List UInt8) (held len : Int) : ((wkc s blk held len).drop 0).take (wvs s.l).length = wvs s.l := by simp [wkc]
theorem wkc_state (s : St) (blk : List UInt8) (held len : Int) (j : Nat) (h : j < 8) : (wkc s blk held len)[j]? = some (.int .u32 (wv (s.l.getD j 0))) := by
  rw [wkc, List.getElem?_append_left (by rw [wvs_length]; exact h), wvs_get _ _ h]

theorem index8 (a b c d e f g h : W32) (n : Nat) (hn : n < 8) (W : World) : (Instr.index 65 (.agg #[.int .u32 (wv a), .int .u32 (wv b), .int .u32 (wv c), .int .u32 (wv d), .int .u32 (wv e), .int .u32 (wv f), .int .u32 (wv g), .int .u32 (wv h)]) (.int .i64 (n : Int))).run Tryd.prog W = .ok (.int .u32 (wv (([a, b, c, d, e, f, g, h] : List W32).getD n 0))) W := by
  refine run_index_agg 65 58 8 _ n _ W Tryd.underlying65 (by kernel_rfl) _ Tryd.underlying58 rfl hn ?_
  have : n = 0 ∨ n = 1 ∨ n = 2 ∨ n = 3 ∨ n = 4 ∨ n = 5 ∨ n = 6 ∨ n = 7 := by omega
  rcases this with rfl | rfl | rfl | rfl | rfl | rfl | rfl | rfl <;> rfl
theorem add8 (s t : St) (n : Nat) (hn : n < 8) : s.l.getD n 0 + t.l.getD n 0 = (addSt s t).l.getD n 0 := by
  have : n = 0 ∨ n = 1 ∨ n = 2 ∨ n = 3 ∨ n = 4 ∨ n = 5 ∨ n = 6 ∨ n = 7 := by omega
  rcases this with rfl | rfl | rfl | rfl | rfl | rfl | rfl | rfl <;> rfl

set_option maxRecDepth 100000 in
set_option maxHeartbeats 4000000 in
theorem mix_any (p : Nat) (s : St) (blk : List UInt8) (held len : Int) (w : World) (hb : Blk w p 68 (wkc s blk held len)) (h64 : blk.length = 64) (hgl : Glob w) (hp : 0 < p ∧ 1 < p) :
    Calls Tryd.prog 32 #[.pointer (some ⟨p, 0, none⟩)] w (SetRet p 68 (wkc (mixB s blk) blk held len) w) := by
  have hplt := hb.lt
  have hwl : (wvs (words64 blk)).length = 64 := by rw [wvs_length]; exact words64_length blk
  have hone := wvs_one (words64 blk)
  have hi : (Tryd.prog.info? 81).map (·.size) = some (wvs (words64 blk)).length := by rw [hwl]; exact size64
  have hzl : (fill0 []).length = (wvs (words64 blk)).length := by rw [hwl]; exact fill0_length [] (by simp)
  have H1 := Lib.hid hone
  have H2 := Lib.hid hi
  have H3 := Lib.hid hzl
  have H4 := Lib.hid hwl
  clear hwl hone hi hzl
  go_enter Tryd.func32, Tryd.ntmps32
  go_wp2_with fail
  refine (words_any p s blk held len _ hb h64).mono ?_
  rintro e w1 ⟨rfl, hk1⟩
  go_wp2_with (with_reducible change wpList _ _ _ (⟨_, Op.alloc _, _, _, _, _⟩ :: _) _ _; refine wpList_alloc_blk rfl 81 rfl _ zero64 ?_)
  intro w2 hA2 hk2 hs2
  go_wp2_with (with_reducible change wpList _ _ _ (⟨_, Op.store _ _ _, _, _, _, _⟩ :: _) _ _; refine wpList_store_blk rfl 81 (.tmp 2) (.tmp 18) rfl w1.heap.size (wvs (words64 blk)) rfl rfl 81 (fill0 []) hA2 H2.out H3.out H1.out ?_)
  intro w3 hA3 hk3 hs3
  have hK3 : Kept [] w w3 := (hk1.andThen hk2).trans hk3 (by have := hk1.size; simp; omega)
  have hb3 := hb.kept0 hK3
  have hgl3 := hgl.kept0 hK3
  have hA3l := hA3.lt
  have hne : p ≠ w1.heap.size := by have := hk1.size; omega
  clear hA2 hk2 hk3 hs2 hs3 hk1
  generalize w1.heap.size = g at *
  go_wp2_with (first
    | (with_reducible change wpList _ _ _ (⟨_, Op.load _ _, _, _, _, _⟩ :: _) _ _; refine wpList_load_part rfl 65 (.tmp 21) rfl p 0 rfl 68 _ (wvs s.l) _ hb3 (wkc_head s blk held len) Tryd.underlying65 rfl (size8w s) ?_)
    | (with_reducible change wpList _ _ _ (⟨_, Op.alloc _, _, _, _, _⟩ :: _) _ _; refine wpList_alloc_blk rfl 65 rfl _ zero8 ?_))
  intro w4 hC4 hk4 hs4
  go_wp2_with (with_reducible change wpList _ _ _ (⟨_, Op.store _ _ _, _, _, _, _⟩ :: _) _ _; refine wpList_store_blk rfl 65 (.tmp 3) (.tmp 22) rfl w3.heap.size (wvs s.l) rfl rfl 65 z8 hC4 (size8w s) rfl (wvs_one _) ?_)
  intro w5 hC5 hk5 hs5
  have hK45 : Kept [] w3 w5 := hk4.trans hk5 (by simp)
  have hK5 : Kept [] w w5 := hK3.andThen hK45
  have hb5 := hb3.kept0 hK45
  have hA5 := hA3.kept0 hK45
  have hgl5 := hgl3.kept0 hK45
  have d0 : w5.cell? ⟨w3.heap.size, 0, none⟩ = some (.int .u32 (wv s.a)) := hC5.cell 0
  have d1 : w5.cell? ⟨w3.heap.size, 1, none⟩ = some (.int .u32 (wv s.b)) := hC5.cell 1
  have d2 : w5.cell? ⟨w3.heap.size, 2, none⟩ = some (.int .u32 (wv s.c)) := hC5.cell 2
  have d3 : w5.cell? ⟨w3.heap.size, 3, none⟩ = some (.int .u32 (wv s.d)) := hC5.cell 3
  have d4 : w5.cell? ⟨w3.heap.size, 4, none⟩ = some (.int .u32 (wv s.e)) := hC5.cell 4
  have d5 : w5.cell? ⟨w3.heap.size, 5, none⟩ = some (.int .u32 (wv s.f)) := hC5.cell 5
  have d6 : w5.cell? ⟨w3.heap.size, 6, none⟩ = some (.int .u32 (wv s.g)) := hC5.cell 6
  have d7 : w5.cell? ⟨w3.heap.size, 7, none⟩ = some (.int .u32 (wv s.h)) := hC5.cell 7
  clear hk4 hk5 hC4 hC5 hs4 hs5 hK45 hb3 hA3 hgl3 hK3 hb hgl hplt hA3l
  go_wp2
  go_quiet (fail)
  clear d0 d1 d2 d3 d4 d5 d6 d7
  go_wp2
  go_loopw [4, 5, 6, 7, 8, 9, 10, 11, 39] (fun va vb vc vd ve vf vg vh i wr => ∃ (n m : Nat) (t : St), n ≤ 64 ∧ Hid (t = rnds (words64 blk) s n) ∧ va = .int .u32 (wv t.a) ∧ vb = .int .u32 (wv t.b) ∧ vc = .int .u32 (wv t.c) ∧ vd = .int .u32 (wv t.d) ∧ ve = .int .u32 (wv t.e) ∧ vf = .int .u32 (wv t.f) ∧ vg = .int .u32 (wv t.g) ∧ vh = .int .u32 (wv t.h) ∧ i = .int .i64 n ∧ Hid (wr = w5.drewN m)) (fun _ _ _ _ _ _ _ _ i _ => 64 - (intOf i).toNat)
  case atStart => exact ⟨0, nq, s, by omega, Lib.hid rfl, rfl, rfl, rfl, rfl, rfl, rfl, rfl, rfl, rfl, Lib.hid rfl⟩
  case round =>
    obtain ⟨n, m, t, hn, Ht, rfl, rfl, rfl, rfl, rfl, rfl, rfl, rfl, rfl, Hw⟩ := hrel
    by_cases hlt : n < 64
    · have cK : wr.cell? ⟨1, n, none⟩ = some (.int .u32 (wv (ks.getD n 0))) := by rw [Hw.out]; exact hgl5.2 n hlt
      have cW : wr.cell? ⟨g, n, none⟩ = some (.int .u32 (wv ((words64 blk).getD n 0))) := by rw [Hw.out]; exact (hA5.cell n).trans (wvs_get (words64 blk) n (by rw [words64_length]; exact hlt))
      have Hr : Hid (rnds (words64 blk) s (n + 1) = rnd (ks.getD n 0) ((words64 blk).getD n 0) t) := by
        have := Ht.out
        show _ = _
        rw [this]; rfl
      generalize ks.getD n 0 = k at cK Hr
      generalize (words64 blk).getD n 0 = x at cW Hr
      have rx : ∀ x y : W32, bits .xor .u32 (wv x) (wv y) = wv (x ^^^ y) := bits_xorW
      have ra : ∀ x y : W32, bits .and .u32 (wv x) (wv y) = wv (x &&& y) := bits_andW
      have rn : ∀ x : W32, bits .xor .u32 IntKind.u32.max (wv x) = wv (~~~x) := notW
      have rw1 : ∀ x y : W32, IntKind.u32.wrap (wv x + wv y) = wv (x + y) := fun x y => (IntKind.wrap_u32' _).trans (wv_add x y)
      have rw2 : ∀ x y : W32, (wv x + wv y) % 4294967296 = wv (x + y) := wv_add
      have rw3 : ∀ a b c : W32, (wv a + wv b + wv c) % 4294967296 = wv (a + b + c) := wv_add3
      have rw4 : ∀ a b c d : W32, (wv a + wv b + wv c + wv d) % 4294967296 = wv (a + b + c + d) := wv_add4
      have hlz : (n : Int) < 64 := by omega
      obtain ⟨ta, tb, tc, td, te, tf, tg, th⟩ := t
      go_wp2
      go_quiet (first
        | (go_at_call 37; refine Calls.quiet_of (turn_at _ 6 _ _ rfl (by omega) (by omega)))
        | (go_at_call 37; refine Calls.quiet_of (turn_at _ 11 _ _ rfl (by omega) (by omega)))
        | (go_at_call 37; refine Calls.quiet_of (turn_at _ 25 _ _ rfl (by omega) (by omega))))
      go_wp2_with fail
      refine (turn_at _ 2 _ _ rfl (by omega) (by omega)).mono ?_
      rintro e w' ⟨rfl, m1, rfl⟩
      go_wp2_with fail
      refine (turn_at _ 13 _ _ rfl (by omega) (by omega)).mono ?_
      rintro e w' ⟨rfl, m2, rfl⟩
      go_wp2_with fail
      refine (turn_at _ 22 _ _ rfl (by omega) (by omega)).mono ?_
      rintro e w' ⟨rfl, m3, rfl⟩
      go_wp2
      go_roundw
      case rel => exact ⟨n + 1, m + (nq + m1 + m2 + m3), rnd k x ⟨ta, tb, tc, td, te, tf, tg, th⟩, by omega, Hr.out.symm, rfl, rfl, rfl, rfl, rfl, rfl, rfl, rfl, by go_num, by have := Hw.out; rw [this, World.drewN_drewN]; exact Lib.hid rfl⟩
      case measure => simp [intOf]; omega
    · obtain rfl : n = 64 := by omega
      have hbr : Blk wr p 68 (midc (addSt s t).l s.l 0 (bvs blk ++ [.int .i64 held, .int .u64 len])) := by rw [Hw.out]; exact hb5
      have hKr : Kept [] w wr := by rw [Hw.out]; exact hK5.drewN m
      have Hm : Hid (addSt s t = mixB s blk) := by
        have := Ht.out
        show _ = _
        rw [this, mixB_eq]
      clear Ht Hw hb5 hK5 hA5 hgl5 hne
      go_wp2
      rw [show ((64 : Nat) : Int) = 64 from rfl]
      go_loopw [111] (fun i wr => ∃ n : Nat, n ≤ 8 ∧ i = .int .i64 n ∧ Blk wr p 68 (midc (addSt s t).l s.l n (bvs blk ++ [.int .i64 held, .int .u64 len])) ∧ Kept [p] w wr) (fun i _ => 8 - (intOf i).toNat)
      case atStart => exact ⟨0, by omega, rfl, hbr, hKr.mono (by simp)⟩
      case round =>
        clear hbr hKr
        obtain ⟨n, hn, rfl, hB, hK⟩ := hrel
        by_cases hlt : n < 8
        · have hidx := index8 t.a t.b t.c t.d t.e t.f t.g t.h n hlt
          have hidl : ([t.a, t.b, t.c, t.d, t.e, t.f, t.g, t.h] : List W32) = t.l := rfl
          rw [hidl] at hidx
          have c1 := (hB.cell n).trans (midc_get (addSt s t).l s.l n _ rfl hlt)
          have f1 := hB.frz n
          have hset := midc_set (addSt s t).l s.l n (bvs blk ++ [.int .i64 held, .int .u64 len]) rfl hlt
          have hnew := hB.set n (.int .u32 (wv ((addSt s t).l.getD n 0)))
          rw [hset, ← add8 s t n hlt] at hnew
          have hKn : Kept [p] w (wr.setCell ⟨p, n, none⟩ (.int .u32 (wv (s.l.getD n 0 + t.l.getD n 0)))) := hK.setCell (by simp) _
          have rw1 : ∀ x y : W32, IntKind.u32.wrap (wv x + wv y) = wv (x + y) := fun x y => (IntKind.wrap_u32' _).trans (wv_add x y)
          have rw2 : ∀ x y : W32, (wv x + wv y) % 4294967296 = wv (x + y) := wv_add
          generalize s.l.getD n 0 = y at *
          generalize t.l.getD n 0 = z at *
          have hlz : (n : Int) < 8 := by omega
          clear hset hidl
          go_wp2
          go_still_tail 11, (by kernel_rfl)
          change wpList _ _ _ _ _ wr.drew
          go_wp2
          go_roundw
          case rel => exact ⟨n + 1, by omega, by go_num, hnew, hKn.drewN 1⟩
          case measure => simp [intOf]; omega
        · obtain rfl : n = 8 := by omega
          have hall := mid_all (addSt s t).l s.l rfl
          have hB2 : Blk wr p 68 (wkc (mixB s blk) blk held len) := by
            refine hB.of_eq ?_
            rw [← Hm.out]
            unfold midc wkc
            rw [show (8 : Nat) = s.l.length from rfl, hall]
          clear hall hB
          go_wp2
          go_end0
          exact ⟨rfl, hB2, hK⟩
end Go.Proofs.YtmhigipljplgdaaDoor
/-
  Plain facts on the cells of a digest under way: what a copy and a store leave, layer 2 (sha). No statement of the seed is proved here.
-/
namespace Go.Proofs.YtmhigipljplgdaaDoor
open Go.RowKit
set_option linter.unusedVariables false

theorem stl8 (s : St) : (wvs s.l).length = 8 := rfl
theorem wkc_held (s : St) (blk : List UInt8) (held len : Int) (hb : blk.length = 64) : (wkc s blk held len)[72]? = some (.int .i64 held) := by
  rw [wkc, List.getElem?_append_right (by rw [stl8]; decide), stl8, List.getElem?_append_right (by rw [bvs_length, hb]; decide), bvs_length, hb]
  rfl
theorem wkc_len (s : St) (blk : List UInt8) (held len : Int) (hb : blk.length = 64) : (wkc s blk held len)[73]? = some (.int .u64 len) := by
  rw [wkc, List.getElem?_append_right (by rw [stl8]; decide), stl8, List.getElem?_append_right (by rw [bvs_length, hb]; decide), bvs_length, hb]
  rfl
theorem wkc_set_held (s : St) (blk : List UInt8) (held len x : Int) (hb : blk.length = 64) : (wkc s blk held len).set 72 (.int .i64 x) = wkc s blk x len := by
  unfold wkc
  rw [List.set_append_right _ _ (by rw [stl8]; decide), stl8, List.set_append_right _ _ (by rw [bvs_length, hb]; decide), bvs_length, hb]
  rfl
theorem wkc_set_len (s : St) (blk : List UInt8) (held len x : Int) (hb : blk.length = 64) : (wkc s blk held len).set 73 (.int .u64 x) = wkc s blk held x := by
  unfold wkc
  rw [List.set_append_right _ _ (by rw [stl8]; decide), stl8, List.set_append_right _ _ (by rw [bvs_length, hb]; decide), bvs_length, hb]
  rfl
theorem splice_len {α : Type} (L : List α) (off : Nat) (cs : List α) (h : off + cs.length ≤ L.length) : (splice L off cs).length = L.length := length_splice L off cs h
theorem wkc_splice (s : St) (blk : List UInt8) (held len : Int) (h : Nat) (u : List UInt8) (hb : blk.length = 64) (hu : h + u.length ≤ 64) : splice (wkc s blk held len) (8 + h) (bvs u) = wkc s (splice blk h u) held len := by
  have e8 : (wvs s.l).length = 8 := rfl
  unfold splice wkc
  rw [List.take_append, List.take_of_length_le (by omega), e8, Nat.add_sub_cancel_left, List.append_assoc]
  congr 1
  rw [List.take_append_of_le_length (by rw [bvs_length]; omega)]
  have e1 : (bvs blk).take h = bvs (blk.take h) := by simp [bvs, List.map_take]
  rw [e1, List.drop_append, List.drop_of_length_le (by rw [bvs_length]; omega), List.nil_append, e8, bvs_length]
  rw [show 8 + h + u.length - 8 = h + u.length by omega, List.drop_append_of_le_length (by rw [bvs_length]; omega)]
  have e2 : (bvs blk).drop (h + u.length) = bvs (blk.drop (h + u.length)) := by simp [bvs, List.map_drop]
  rw [e2, bvs_append, bvs_append]
  simp only [List.append_assoc]
theorem splice_take {α : Type} (L : List α) (off : Nat) (cs : List α) (h : off + cs.length ≤ L.length) : (splice L off cs).take (off + cs.length) = L.take off ++ cs := by
  unfold splice
  rw [← List.append_assoc, List.take_append_of_le_length (by rw [List.length_append, List.length_take]; omega), List.take_of_length_le (by rw [List.length_append, List.length_take]; omega)]

/-- What waits of a text: the bytes behind its whole blocks. -/
def waits (bs : List UInt8) : List UInt8 := bs.drop (64 * (bs.length / 64))
theorem waits_length (bs : List UInt8) : (waits bs).length = bs.length % 64 := by unfold waits; rw [List.length_drop]; omega
theorem waits_more (bs u : List UInt8) (h : bs.length % 64 + u.length < 64) : waits (bs ++ u) = waits bs ++ u := by
  unfold waits
  rw [List.length_append, show (bs.length + u.length) / 64 = bs.length / 64 by omega, List.drop_append_of_le_length (by omega)]
theorem waits_full (bs u : List UInt8) (h : bs.length % 64 + u.length = 64) : waits (bs ++ u) = [] := by
  apply List.eq_nil_of_length_eq_zero
  rw [waits_length, List.length_append]; omega

/-- A digest under way at block p: it has taken bs, and its count of bytes is L. -/
def WkL (w : World) (p : Nat) (t : TypeId) (bs : List UInt8) (L : Nat) : Prop :=
  ∃ blk : List UInt8, blk.length = 64 ∧ Blk w p t (wkc (run st0 bs) blk ((bs.length % 64 : Nat) : Int) (L : Int)) ∧ blk.take (bs.length % 64) = waits bs
theorem WkL.kept {w w' : World} {p : Nat} {t : TypeId} {bs : List UInt8} {L : Nat} {S : List Nat} (h : WkL w p t bs L) (hk : Kept S w w') (hS : p ∉ S) : WkL w' p t bs L := by
  obtain ⟨blk, h1, h2, h3⟩ := h
  exact ⟨blk, h1, h2.kept hk hS, h3⟩
theorem WkL.kept0 {w w' : World} {p : Nat} {t : TypeId} {bs : List UInt8} {L : Nat} (h : WkL w p t bs L) (hk : Kept [] w w') : WkL w' p t bs L := h.kept hk (by simp)
theorem WkL.lt {w : World} {p : Nat} {t : TypeId} {bs : List UInt8} {L : Nat} (h : WkL w p t bs L) : p < w.heap.size := by
  obtain ⟨blk, h1, h2, h3⟩ := h
  exact h2.lt

/-- copy into a block that is known. -/
theorem wpList_copy_blk {P : Program} {w : World} {ops : Array Oper} {rest : List Oper} {o : Oper} {a : Act} {Q : Exit → Act → World → Prop} (hgd : o.guard = none) (d s : Operand) (dT : TypeId)
    (ho : o.op = .call { callee := .builtin .copy, args := #[d, s], argTypes := #[dT, dT] }) (elem : TypeId) (hu : P.underlying dT = some (.slice elem)) (hsz : (P.info? elem).map (·.size) = some 1)
    (g off dLen dCap : Nat) (A : Option Addr) (n c : Nat) (bs : List UInt8) (hd : a.eval d = .slice (some ⟨g, off, none⟩) dLen dCap) (hs : a.eval s = .slice A n c) (hr : RdB w A n c bs) (hn : 0 < n)
    (t : TypeId) (cur : List Value) (hg : Blk w g t cur) (m : Nat) (hm : m = min n dLen) (hfit : off + m ≤ cur.length)
    (h : ∀ w', Blk w' g t (splice cur off (bvs (bs.take m))) → Kept [g] w w' → wpList P ops Q rest (a.put o.dst (.int .i64 m)) w') : wpList P ops Q (o :: rest) a w := by
  have hl := hr.len
  obtain ⟨b, o2, rfl, _, _⟩ := hr.at_ hn
  have hlen : (bvs (bs.take m)).length = m := by rw [bvs_length, List.length_take]; omega
  refine wpList_copy_own hgd d s dT dT ho elem hu hsz g off dLen dCap ⟨b, o2, none⟩ n c hd hs cur.toArray t hg (bvs (bs.take m)) (by rw [hlen, hm]) (fun j v hv => ?_) (by rw [hlen]; simpa using hfit) (bvs_one _) ?_
  · refine hr.news j v ?_
    have : bvs (bs.take m) = (bvs bs).take m := by simp [bvs, List.map_take]
    rw [this, List.getElem?_take] at hv
    split at hv
    · exact hv
    · cases hv
  · rw [hlen]
    refine h _ ?_ ⟨rfl, rfl, rfl, by simp, fun k _ hk => setRow_other w g k _ (by simpa using hk)⟩
    have := setRow_heap w g _ (cur.toArray.toList.take off ++ (bvs (bs.take m) ++ cur.toArray.toList.drop (off + m))).toArray t _ hg
    unfold Blk splice
    rw [hlen]
    exact this
end Go.Proofs.YtmhigipljplgdaaDoor
/-
  Contract of the function that takes a text into a digest under way, layer 2 (sha). No statement of the seed is proved here.
-/
namespace Go.Proofs.YtmhigipljplgdaaDoor
open Go.RowKit
set_option linter.unusedVariables false

def slen : Value → Nat
  | .slice _ n _ => n
  | _ => 0
/-- What taking a text leaves. -/
def TakeRet (p : Nat) (bs : List UInt8) (L : Nat) (w : World) (e : Ending) (w' : World) : Prop := e = .returned (.tuple #[]) ∧ WkL w' p 68 bs L ∧ Kept [p] w w'

set_option maxRecDepth 100000 in
set_option maxHeartbeats 4000000 in
theorem take_any (p : Nat) (bs t : List UInt8) (L : Nat) (A : Option Addr) (n c : Nat) (w : World) (hW : WkL w p 68 bs L) (hr : RdB w A n c t) (ho : 0 < n → Off A [p]) (hgl : Glob w) (hp : 0 < p ∧ 1 < p) (hL : L + n < 1099511627776) :
    Calls Tryd.prog 26 #[.pointer (some ⟨p, 0, none⟩), .slice A n c] w (TakeRet p (bs ++ t) (L + n) w) := by
  obtain ⟨blk0, hl0, hB0, hw0⟩ := hW
  have c73 := (hB0.cell 73).trans (wkc_len _ _ _ _ hl0)
  have f73 := hB0.frz 73
  have hB1 := hB0.set 73 (.int .u64 ((L : Int) + (n : Int)))
  rw [wkc_set_len _ _ _ _ _ hl0] at hB1
  have hK1 : Kept [p] w (w.setCell ⟨p, 73, none⟩ (.int .u64 ((L : Int) + (n : Int)))) := (Kept.refl [p] w).setCell (by simp) _
  have hr1 := hr.keptIf hK1 ho
  have hg1 := hgl.kept hK1 (by simp; omega) (by simp; omega)
  have H0 := Lib.hid hw0
  clear hw0 hB0
  go_enter Tryd.func26, Tryd.ntmps26
  go_wp2
  go_loopw [1] (fun v wr => ∃ (A' : Option Addr) (r c' : Nat) (dn ts : List UInt8), v = .slice A' r c' ∧ RdB wr A' r c' ts ∧ Hid (t = dn ++ ts) ∧ (0 < r → Off A' [p]) ∧ WkL wr p 68 (bs ++ dn) (L + n) ∧ Glob wr ∧ Kept [p] w wr) (fun v _ => slen v)
  case atStart => exact ⟨A, n, c, [], t, rfl, hr1, Lib.hid rfl, ho, ⟨blk0, hl0, by rw [List.append_nil]; exact hB1, by rw [List.append_nil]; exact H0.out⟩, hg1, hK1⟩
  case round =>
    clear c73 f73 hB1 hK1 hr1 hg1 H0 ho hr hgl
    obtain ⟨A', r, c', dn, ts, rfl, hr, Ht, ho, ⟨blk, hl, hB, hw⟩, hg, hK⟩ := hrel
    have Hl := Lib.hid hr.len
    have hcm := hr.cap
    have hcx := hr.most
    unfold maxLen at hcx
    by_cases hpos : 0 < r
    · have hlt : (bs ++ dn).length % 64 < 64 := Nat.mod_lt _ (by omega)
      have Hw := Lib.hid hw
      clear hw
      generalize hq : (bs ++ dn).length % 64 = h at *
      have Hq := Lib.hid hq
      clear hq
      obtain ⟨m, hm⟩ : ∃ m, m = min r (64 - h) := ⟨_, rfl⟩
      have Hm := Lib.hid hm
      have hm1 : m ≤ r := by omega
      have hm2 : h + m ≤ 64 := by omega
      have hm3 : 0 < m := by omega
      have c72 := (hB.cell 72).trans (wkc_held _ _ _ _ hl)
      have f72 := hB.frz 72
      have hcutA := run_cut_from (P := Tryd.prog) 66 5 64 p 8 .i64 h (h : Int) arr64b size1b rfl hlt
      obtain ⟨A2, hr2, ho2, hcutB⟩ := hr.cutFrom (P := Tryd.prog) 53 5 Tryd.underlying53 size1b m (m : Int) rfl hm1
      have hwl := wkc_length (run st0 (bs ++ dn)) blk h ((L + n : Nat) : Int) hl
      clear hm
      go_wp2
      go_still_tail 9, (by kernel_rfl)
      change wpList _ _ _ _ _ wr.drew
      have hBD := hB.drew
      have hrD := hr.drew
      have hr2D := hr2.drew
      have hgD : Glob wr.drew := hg
      have hKD := hK.drew
      clear c72 f72 hB hr hr2 hg hK
      generalize wr.drew = wd at *
      refine wpList_copy_blk rfl (.tmp 25) (.tmp 26) 53 rfl 5 Tryd.underlying53 size1b p (8 + h) (64 - h) (64 - h) A' r c' ts rfl rfl hrD hpos 68 _ hBD m Hm.out (by rw [hwl]; omega) ?_
      intro w2 hB2 hk2
      have hul : (ts.take m).length = m := by rw [List.length_take]; have := Hl.out; omega
      rw [wkc_splice _ _ _ _ _ _ hl (by omega)] at hB2
      have hl2 : (splice blk h (ts.take m)).length = 64 := by rw [splice_len _ _ _ (by omega)]; exact hl
      have hst := splice_take blk h (ts.take m) (by omega)
      rw [hul, Hw.out] at hst
      have Hst := Lib.hid hst
      have Hul := Lib.hid hul
      clear hst hul
      have hr3 := hr2D.keptIf hk2 (fun _ => ho2 _ (ho hpos))
      have hg3 := hgD.kept hk2 (by simp; omega) (by simp; omega)
      have hK3 : Kept [p] w w2 := hKD.trans hk2 (fun i hi => .inl hi)
      clear hr2D hgD hKD hBD hrD hk2 hwl
      generalize splice blk h (ts.take m) = blk2 at *
      have c72 := (hB2.cell 72).trans (wkc_held _ _ _ _ hl2)
      have f72 := hB2.frz 72
      have hB4 := hB2.set 72 (.int .i64 ((h : Int) + (m : Int)))
      rw [wkc_set_held _ _ _ _ _ hl2] at hB4
      have hk4 : Kept [p] w2 (w2.setCell ⟨p, 72, none⟩ (.int .i64 ((h : Int) + (m : Int)))) := (Kept.refl [p] w2).setCell (by simp) _
      have d72 := (hB4.cell 72).trans (wkc_held _ _ _ _ hl2)
      have hr4 := hr3.keptIf hk4 (fun _ => ho2 _ (ho hpos))
      have hg4 := hg3.kept hk4 (by simp; omega) (by simp; omega)
      have hK4 : Kept [p] w (w2.setCell ⟨p, 72, none⟩ (.int .i64 ((h : Int) + (m : Int)))) := hK3.trans hk4 (fun i hi => .inl hi)
      have Hlen : Hid ((bs ++ dn ++ ts.take m).length = (bs ++ dn).length + m) := by show _ = _; rw [List.length_append, Hul.out]
      clear hB2 hr3 hg3 hK3 hk4
      by_cases hful : h + m = 64
      · have he : ((h : Int) + (m : Int) == 64) = true := by simp; omega
        have Hfull : Hid (run st0 (bs ++ (dn ++ ts.take m)) = mixB (run st0 (bs ++ dn)) blk2 ∧ (bs ++ (dn ++ ts.take m)).length % 64 = 0 ∧ waits (bs ++ (dn ++ ts.take m)) = []) := by
          have h1 := Hul.out
          have h2 := Hq.out
          have h3 := Hst.out
          rw [hful, List.take_of_length_le (by omega)] at h3
          refine ⟨?_, ?_, ?_⟩
          · rw [← List.append_assoc, run_full _ _ _ (by omega), h3]; rfl
          · rw [← List.append_assoc, List.length_append]; omega
          · rw [← List.append_assoc]; exact waits_full _ _ (by omega)
        go_wp2_with fail
        refine (mix_any p _ blk2 _ _ _ hB4 hl2 hg4 hp).mono ?_
        rintro e w5 ⟨rfl, hB5, hk5⟩
        have hr5 := hr4.keptIf hk5 (fun _ => ho2 _ (ho hpos))
        have hg5 := hg4.kept hk5 (by simp; omega) (by simp; omega)
        have hK5 : Kept [p] w w5 := hK4.trans hk5 (fun i hi => .inl hi)
        clear hB4 hr4 hg4 hK4 hk5 c72 f72 d72
        have c72 := (hB5.cell 72).trans (wkc_held _ _ _ _ hl2)
        have f72 := hB5.frz 72
        have hB6 := hB5.set 72 (.int .i64 0)
        rw [wkc_set_held _ _ _ _ _ hl2] at hB6
        have hk6 : Kept [p] w5 (w5.setCell ⟨p, 72, none⟩ (.int .i64 0)) := (Kept.refl [p] w5).setCell (by simp) _
        have hr6 := hr5.keptIf hk6 (fun _ => ho2 _ (ho hpos))
        have hg6 := hg5.kept hk6 (by simp; omega) (by simp; omega)
        have hK6 : Kept [p] w (w5.setCell ⟨p, 72, none⟩ (.int .i64 0)) := hK5.trans hk6 (fun i hi => .inl hi)
        clear hB5 hr5 hg5 hK5 hk6
        go_wp2
        go_roundw
        case rel =>
          obtain ⟨e1, e2, e3⟩ := Hfull.out
          refine ⟨A2, r - m, c' - m, dn ++ ts.take m, ts.drop m, rfl, hr6, Lib.hid (by rw [Ht.out, List.append_assoc, List.take_append_drop]), fun _ => ho2 _ (ho hpos), ⟨blk2, hl2, ?_, ?_⟩, hg6, hK6⟩
          · rw [e1, e2]; exact hB6
          · rw [e2, e3]; rfl
        case measure => simp [slen]; omega
      · have he : ((h : Int) + (m : Int) == 64) = false := by simp; omega
        have Hmore : Hid (run st0 (bs ++ (dn ++ ts.take m)) = run st0 (bs ++ dn) ∧ (bs ++ (dn ++ ts.take m)).length % 64 = h + m ∧ waits (bs ++ (dn ++ ts.take m)) = waits (bs ++ dn) ++ ts.take m) := by
          have h1 := Hul.out
          have h2 := Hq.out
          refine ⟨?_, ?_, ?_⟩
          · rw [← List.append_assoc, run_more _ _ _ (by omega)]
          · rw [← List.append_assoc, List.length_append]; omega
          · rw [← List.append_assoc]; exact waits_more _ _ (by omega)
        go_wp2
        go_roundw
        case rel =>
          obtain ⟨e1, e2, e3⟩ := Hmore.out
          refine ⟨A2, r - m, c' - m, dn ++ ts.take m, ts.drop m, rfl, hr4, Lib.hid (by rw [Ht.out, List.append_assoc, List.take_append_drop]), fun _ => ho2 _ (ho hpos), ⟨blk2, hl2, ?_, ?_⟩, hg4, hK4⟩
          · rw [e1, e2]; exact hB4
          · rw [e2, e3]; exact Hst.out
        case measure => simp [slen]; omega
    · obtain rfl : r = 0 := by omega
      have hts : ts = [] := List.eq_nil_of_length_eq_zero Hl.out
      have hbt : bs ++ dn = bs ++ t := by rw [Ht.out, hts, List.append_nil]
      have Hbt := Lib.hid hbt
      clear hts hbt
      go_wp2
      go_end0
      exact ⟨rfl, by rw [← Hbt.out]; exact ⟨blk, hl, hB, hw⟩, hK⟩
end Go.Proofs.YtmhigipljplgdaaDoor
/-
  Contracts of the functions that end a text and tell the digest, layer 2 (sha). No statement of the seed is proved here.
-/
namespace Go.Proofs.YtmhigipljplgdaaDoor
open Go.RowKit
set_option linter.unusedVariables false

theorem splice_bvs (a : List UInt8) (off : Nat) (b : List UInt8) : splice (bvs a) off (bvs b) = bvs (splice a off b) := by
  simp [splice, bvs, List.map_take, List.map_drop]
theorem be_append : ∀ (m n x : Nat), be (m + n) x = be m (x / 256 ^ n) ++ be n x
  | m, 0, x => by simp [be]
  | m, n + 1, x => by
    rw [← Nat.add_assoc, be, be_append m n, be, Nat.div_div_eq_div_mul, ← Nat.pow_succ', List.append_assoc]
theorem ofNat_mod256 (x : Nat) : UInt8.ofNat (x % 256) = UInt8.ofNat x := by
  apply UInt8.toNat_inj.1; rw [ofNat_toNat, ofNat_toNat]; omega
theorem be_mod : ∀ (n x y : Nat), x % 256 ^ n = y % 256 ^ n → be n x = be n y
  | 0, _, _, _ => rfl
  | n + 1, x, y, h => by
    have hp : 0 < 256 ^ n := Nat.pow_pos (by omega)
    rw [Nat.pow_succ] at h
    have h1 : x / 256 % 256 ^ n = y / 256 % 256 ^ n := by
      have a1 := Nat.mod_mul_left_div_self x 256 (256 ^ n)
      have a2 := Nat.mod_mul_left_div_self y 256 (256 ^ n)
      rw [← a1, ← a2, h]
    have h2 : x % 256 = y % 256 := by
      have a1 := Nat.mod_mul_left_mod x (256 ^ n) 256
      have a2 := Nat.mod_mul_left_mod y (256 ^ n) 256
      rw [← a1, ← a2, h]
    rw [be, be, be_mod n _ _ h1, ← ofNat_mod256 x, ← ofNat_mod256 y, h2]
theorem be4_ofNat (x : Nat) : be 4 (BitVec.ofNat 32 x).toNat = be 4 x := by
  apply be_mod
  rw [BitVec.toNat_ofNat]
  omega
theorem be8_two (x : Nat) : be 8 x = be 4 (BitVec.ofNat 32 (x / 4294967296)).toNat ++ be 4 (BitVec.ofNat 32 x).toNat := by
  rw [be4_ofNat, be4_ofNat]
  exact be_append 4 4 x

/-- What stands behind a text, as it is laid into a row of noughts. -/
def behindB (L : Nat) : List UInt8 := splice (splice (128 :: List.replicate 71 0) (fillN L) (be 4 (BitVec.ofNat 32 (8 * L / 4294967296)).toNat)) (fillN L + 4) (be 4 (BitVec.ofNat 32 (8 * L)).toNat)
theorem behindB_take (L : Nat) : (behindB L).take (fillN L + 8) = tail8 L := by
  have hf := fillN_pos L
  have l1 := be_length 4 (BitVec.ofNat 32 (8 * L / 4294967296)).toNat
  have l2 := be_length 4 (BitVec.ofNat 32 (8 * L)).toNat
  have e1 := splice_take (128 :: List.replicate 71 (0 : UInt8)) (fillN L) (be 4 (BitVec.ofNat 32 (8 * L / 4294967296)).toNat) (by rw [l1]; simp; omega)
  have e2 := splice_take (splice (128 :: List.replicate 71 (0 : UInt8)) (fillN L) (be 4 (BitVec.ofNat 32 (8 * L / 4294967296)).toNat)) (fillN L + 4) (be 4 (BitVec.ofNat 32 (8 * L)).toNat) (by rw [length_splice _ _ _ (by rw [l1]; simp; omega), l2]; simp; omega)
  rw [l2, show fillN L + 4 + 4 = fillN L + 8 by omega] at e2
  rw [l1] at e1
  unfold behindB
  rw [e2, e1]
  unfold tail8
  rw [be8_two, List.append_assoc]
  congr 1
  obtain ⟨f, hf2⟩ : ∃ f, fillN L = f + 1 := ⟨fillN L - 1, by omega⟩
  rw [hf2, List.take_succ_cons, Nat.add_sub_cancel, List.take_replicate]
  congr 2; omega

theorem putWord_at (g off n c : Nat) (t : TypeId) (cs : List Value) (x : W32) (z : Int) (w : World) (hz : z = wv x) (hb : Blk w g t cs) (hn : 4 ≤ n) (hc : n ≤ c) (ho : off + 4 ≤ cs.length) :
    Calls Tryd.prog 33 #[.slice (some ⟨g, off, none⟩) n c, .int .u32 z] w (SetRet g t (splice cs off (bvs (be 4 x.toNat))) w) := by
  subst hz; exact putWord_any g off n c t cs x w hb hn hc ho

theorem zero72 : (Tryd.prog.info? 75).bind (·.zero) = some (.agg (zb 72).toArray) := by kernel_rfl
theorem arr72b : Tryd.prog.underlying 75 = some (.array 72 5) := by kernel_rfl

set_option maxRecDepth 100000 in
set_option maxHeartbeats 4000000 in
theorem wend_any (p : Nat) (bs : List UInt8) (L : Nat) (w : World) (hW : WkL w p 68 bs L) (hgl : Glob w) (hp : 0 < p ∧ 1 < p) (hL : L < 1099511620000) :
    Calls Tryd.prog 27 #[.pointer (some ⟨p, 0, none⟩)] w (TakeRet p (bs ++ tail8 L) (L + (fillN L + 8)) w) := by
  have hplt := hW.lt
  have hf := fillN_pos L
  have hfz : 64 - ((L : Int) + 8) % 64 = (fillN L : Int) := by unfold fillN; omega
  go_enter Tryd.func27, Tryd.ntmps27
  go_wp2_with (with_reducible change wpList _ _ _ (⟨_, Op.alloc _, _, _, _, _⟩ :: _) _ _; refine wpList_alloc_blk rfl 75 rfl _ zero72 ?_)
  intro w1 hG1 hk1 hs1
  obtain ⟨blk, hl, hB, hw⟩ := hW.kept0 hk1
  have c73 := (hB.cell 73).trans (wkc_len _ _ _ _ hl)
  have c0 : w1.cell? ⟨w.heap.size, 0, none⟩ = some (.int .u8 0) := hG1.cell 0
  have f0 := hG1.frz 0
  have hG2 : Blk (w1.setCell ⟨w.heap.size, 0, none⟩ (.int .u8 128)) w.heap.size 75 (bvs (128 :: List.replicate 71 0)) := hG1.set 0 _
  have hk2 : Kept [] w (w1.setCell ⟨w.heap.size, 0, none⟩ (.int .u8 128)) := hk1.setCell (by simp) _
  have hcut1 := run_cut_from (P := Tryd.prog) 75 5 72 w.heap.size 0 .u64 (fillN L) (fillN L : Int) arr72b size1b rfl (by omega)
  have hcut2 := run_cut_from (P := Tryd.prog) 75 5 72 w.heap.size 0 .u64 (fillN L + 4) ((fillN L : Int) + 4) arr72b size1b (by omega) (by omega)
  have hcut3 := run_cut_to (P := Tryd.prog) 75 5 72 w.heap.size 0 .u64 (fillN L + 8) ((fillN L : Int) + 8) arr72b size1b (by omega) (by omega) (by omega)
  have hl1 : (splice (128 :: List.replicate 71 (0 : UInt8)) (fillN L) (be 4 (BitVec.ofNat 32 (8 * L / 4294967296)).toNat)).length = 72 := by rw [length_splice _ _ _ (by rw [be_length]; simp; omega)]; simp
  have hl2 : (behindB L).length = 72 := by unfold behindB; rw [length_splice _ _ _ (by rw [hl1, be_length]; omega), hl1]
  have Hl1 := Lib.hid hl1
  have Hl2 := Lib.hid hl2
  clear hl1 hl2
  go_wp2_with fail
  refine (putWord_at w.heap.size (fillN L) _ _ 75 _ (BitVec.ofNat 32 (8 * L / 4294967296)) _ _ (by rw [wv_ofNat _ (by omega)]; omega) hG2 (by omega) (Nat.le_refl _) (by rw [bvs_length]; simp; omega)).mono ?_
  rintro e w3 ⟨rfl, hG3, hk3⟩
  rw [splice_bvs] at hG3
  go_wp2_with fail
  refine (putWord_at w.heap.size (fillN L + 4) _ _ 75 _ (BitVec.ofNat 32 (8 * L)) _ _ (by rw [wv_eq, BitVec.toNat_ofNat]; omega) hG3 (by omega) (Nat.le_refl _) (by rw [bvs_length, Hl1.out]; omega)).mono ?_
  rintro e w4 ⟨rfl, hG4, hk4⟩
  rw [splice_bvs] at hG4
  have hK4 : Kept [] w w4 := (hk2.trans hk3 (by simp)).trans hk4 (by simp)
  have hW4 := hW.kept0 hK4
  have hgl4 := hgl.kept0 hK4
  have hr4 : RdB w4 (some ⟨w.heap.size, 0, none⟩) (fillN L + 8) 72 (tail8 L) := by
    refine Blk.rdb hG4 0 _ _ _ ?_ (tail8_length L) (by omega) (by simp [maxLen])
    rw [List.drop_zero, ← behindB_take L]
    simp [bvs, List.map_take, behindB]
  clear hG1 hk1 hB hw c73 c0 f0 hG2 hk2 hG3 hk3 hG4 hk4
  go_wp2_with fail
  refine (take_any p bs (tail8 L) L _ _ _ _ hW4 hr4 (fun _ a ha => by cases ha; simp; omega) hgl4 hp (by omega)).mono ?_
  rintro e w5 ⟨rfl, hW5, hk5⟩
  go_wp2
  go_end0
  exact ⟨rfl, hW5, (hK4.mono (by simp)).trans hk5 (fun i hi => .inl hi)⟩
end Go.Proofs.YtmhigipljplgdaaDoor
/-
  Helper words: a key of 32 bytes as a variable. No statement of the seed is proved here.
-/
namespace Go.Proofs.YtmhigipljplgdaaDoor
open Go.RowKit
set_option linter.unusedVariables false

theorem zero32 : (Tryd.prog.info? 32).bind (·.zero) = some (.agg (zb 32).toArray) := by kernel_rfl
theorem arr32b : Tryd.prog.underlying 32 = some (.array 32 5) := by kernel_rfl
theorem size32 : (Tryd.prog.info? 32).map (·.size) = some 32 := by kernel_rfl
theorem zb_size : (Tryd.prog.info? 32).map (·.size) = some (zb 32).length := by rw [zb_length]; exact size32
theorem zb_one : ∀ u ∈ zb 32, u.oneCell' = true := bvs_one _
end Go.Proofs.YtmhigipljplgdaaDoor
/-
  Contract of the function that tells the digest, layer 2 (sha). No statement of the seed is proved here.
-/
namespace Go.Proofs.YtmhigipljplgdaaDoor
open Go.RowKit
set_option linter.unusedVariables false

/-- The first n words as bytes, noughts behind them. -/
def kb (l : List W32) (n : Nat) : List UInt8 := ((l.take n).flatMap fun x => be 4 x.toNat) ++ List.replicate (32 - 4 * n) 0
theorem flat_len (l : List W32) : (l.flatMap fun x => be 4 x.toNat).length = 4 * l.length := by
  induction l with
  | nil => rfl
  | cons x l ih => rw [List.flatMap_cons, List.length_append, be_length, ih, List.length_cons]; omega
theorem kb_length (l : List W32) (n : Nat) (hl : l.length = 8) (h : n ≤ 8) : (kb l n).length = 32 := by
  rw [kb, List.length_append, flat_len, List.length_replicate, List.length_take]; omega
theorem kb_step (l : List W32) (n : Nat) (hl : l.length = 8) (h : n < 8) : splice (kb l n) (4 * n) (be 4 (l.getD n 0).toNat) = kb l (n + 1) := by
  have e1 : ((l.take n).flatMap fun x => be 4 x.toNat).length = 4 * n := by rw [flat_len, List.length_take]; omega
  have ht := take_step l n (l.getD n 0) (by rw [List.getElem?_eq_getElem (by omega), List.getD_eq_getElem?_getD, List.getElem?_eq_getElem (by omega)]; rfl)
  unfold splice kb
  rw [ht, List.flatMap_append, List.take_append_of_le_length (by omega), List.take_of_length_le (by omega), be_length, List.append_assoc]
  congr 1
  rw [List.flatMap_cons, List.flatMap_nil, List.append_nil]
  congr 1
  rw [List.drop_append, List.drop_of_length_le (by omega), List.nil_append, e1, List.drop_replicate]
  congr 1; omega
theorem kb_all (s : St) : kb s.l 8 = stBytes s := by
  unfold kb stBytes
  rw [List.take_of_length_le (by show 8 ≤ 8; omega)]
  simp

set_option maxRecDepth 100000 in
set_option maxHeartbeats 4000000 in
theorem wkey_any (p : Nat) (s : St) (blk : List UInt8) (held len : Int) (w : World) (hb : Blk w p 68 (wkc s blk held len)) :
    Calls Tryd.prog 28 #[.pointer (some ⟨p, 0, none⟩)] w (KeyRet (stBytes s) w) := by
  have hplt := hb.lt
  go_enter Tryd.func28, Tryd.ntmps28
  go_wp2_with (with_reducible change wpList _ _ _ (⟨_, Op.alloc _, _, _, _, _⟩ :: _) _ _; refine wpList_alloc_blk rfl 32 rfl _ zero32 ?_)
  intro w1 hR1 hk1 hs1
  go_wp2_with (with_reducible change wpList _ _ _ (⟨_, Op.alloc _, _, _, _, _⟩ :: _) _ _; refine wpList_alloc_blk rfl 32 rfl _ zero32 ?_)
  intro w2 hG2 hk2 hs2
  have hR2 := hR1.kept0 hk2
  have hK2 := hk1.andThen hk2
  have hb2 := hb.kept0 hK2
  clear hR1 hk1 hk2 hs2 hb
  go_wp2_with (with_reducible change wpList _ _ _ (⟨_, Op.load _ _, _, _, _, _⟩ :: _) _ _; refine wpList_load_part rfl 65 (.tmp 8) rfl p 0 rfl 68 _ (wvs s.l) _ hb2 (wkc_head s blk held len) Tryd.underlying65 rfl (size8w s) ?_)
  clear hb2
  go_loopw [10] (fun i wr => ∃ k : Nat, k ≤ 8 ∧ i = .int .i64 k ∧ Blk wr (w.heap.size + 1) 32 (bvs (kb s.l k)) ∧ Blk wr w.heap.size 32 (zb 32) ∧ Kept [] w wr) (fun i _ => 8 - (intOf i).toNat)
  case atStart => exact ⟨0, by omega, rfl, hG2, hR2, hK2⟩
  case round =>
    obtain ⟨k, hk, rfl, hG, hR, hK⟩ := hrel
    by_cases hlt : k < 8
    · have hcut := run_cut_from (P := Tryd.prog) 32 5 32 (w.heap.size + 1) 0 .i64 (4 * k) (4 * (k : Int)) arr32b size1b (by omega) (by omega)
      have hidx := fun W => run_index_agg (P := Tryd.prog) 65 58 8 (wvs s.l).toArray k (.int .u32 (wv (s.l.getD k 0))) W Tryd.underlying65 (by kernel_rfl) _ Tryd.underlying58 rfl hlt (by simpa using wvs_get s.l k hlt)
      have hkl := kb_length s.l k rfl hk
      have hst := kb_step s.l k rfl hlt
      have Hkl := Lib.hid hkl
      have Hst := Lib.hid hst
      clear hkl hst
      go_wp2_with fail
      refine (putWord_any (w.heap.size + 1) (4 * k) _ _ 32 _ (s.l.getD k 0) _ hG (by omega) (Nat.le_refl _) (by rw [bvs_length, Hkl.out]; omega)).mono ?_
      rintro e w3 ⟨rfl, hG3, hk3⟩
      rw [splice_bvs, Hst.out] at hG3
      have hR3 := hR.kept hk3 (by simp)
      have hK3 : Kept [] w w3 := hK.trans hk3 (by simp)
      clear hG hR hK hk3
      go_wp2
      go_roundw
      case rel => exact ⟨k + 1, by omega, by go_num, hG3, hR3, hK3⟩
      case measure => simp [intOf]; omega
    · obtain rfl : k = 8 := by omega
      rw [kb_all] at hG
      have hwl : (bvs (stBytes s)).length = 32 := by rw [bvs_length]; exact stBytes_length s
      have hone := bvs_one (stBytes s)
      obtain ⟨X, hX⟩ : ∃ X, X = bvs (stBytes s) := ⟨_, rfl⟩
      rw [← hX] at hG hwl hone
      have hi : (Tryd.prog.info? 32).map (·.size) = some X.length := by rw [hwl]; exact size32
      have hz : (zb 32).length = X.length := by rw [hwl]; simp [zb, bvs]
      have HX := Lib.hid hX
      have H1 := Lib.hid hone
      have H2 := Lib.hid hi
      have H3 := Lib.hid hz
      clear hX hwl hone hi hz
      go_wp2_with (first
        | (with_reducible change wpList _ _ _ (⟨_, Op.load _ _, _, _, _, _⟩ :: _) _ _; refine wpList_load_blk rfl 32 (.tmp 3) rfl (w.heap.size + 1) rfl 32 X _ hG Tryd.underlying32 rfl H2.out ?_)
        | (with_reducible change wpList _ _ _ (⟨_, Op.store _ _ _, _, _, _, _⟩ :: _) _ _; refine wpList_store_blk rfl 32 (.tmp 2) (.tmp 20) rfl w.heap.size X rfl rfl 32 (zb 32) hR H2.out H3.out H1.out ?_))
      intro w5 hR5 hk5 hs5
      go_wp2
      refine bodyPost_ret (results_blk rfl _ w.heap.size 32 _ _ rfl hR5 Tryd.underlying32 rfl H2.out) rfl ?_
      exact ⟨by rw [HX.out], hK.trans hk5 (by simp)⟩
end Go.Proofs.YtmhigipljplgdaaDoor
/-
  Contracts of the digests of layer 2 (sha). No statement of the seed is proved here.
-/
namespace Go.Proofs.YtmhigipljplgdaaDoor
open Go.RowKit
set_option linter.unusedVariables false

theorem built47 : Tryd.prog.built 68 [(0, .agg (wvs st0.l).toArray)] = some (wkc st0 (List.replicate 64 0) 0 0).toArray := by kernel_rfl
def zw : List Value := List.replicate 8 (.int .u32 0) ++ (List.replicate 64 (.int .u8 0) ++ [.int .i64 0, .int .u64 0])
theorem zero74 : (Tryd.prog.info? 68).bind (·.zero) = some (.agg zw.toArray) := by kernel_rfl
theorem size74 : (Tryd.prog.info? 68).map (·.size) = some 74 := by kernel_rfl
theorem wkc_one (s : St) (blk : List UInt8) (held len : Int) : ∀ u ∈ wkc s blk held len, u.oneCell' = true := by
  intro u hu
  unfold wkc at hu
  rw [List.mem_append, List.mem_append] at hu
  rcases hu with hu | hu | hu
  · exact wvs_one _ u hu
  · exact bvs_one _ u hu
  · simp at hu
    rcases hu with rfl | rfl <;> rfl

set_option maxRecDepth 100000 in
set_option maxHeartbeats 4000000 in
theorem digest_any (A : Option Addr) (n c : Nat) (ls : List (List UInt8)) (w : World) (hr : RdL w A n c ls) (hgl : Glob w) (hL : ls.flatten.length < 1099511600000) :
    Calls Tryd.prog 20 #[.slice A n c] w (KeyRet (shaSum ls.flatten) w) := by
  have hgl2 := hgl.lt
  have hm := hr.most
  have hcc := hr.cap
  unfold maxLen at hm
  obtain ⟨X, hX⟩ : ∃ X, X = wkc st0 (List.replicate 64 0) 0 0 := ⟨_, rfl⟩
  have hXl : X.length = 74 := by rw [hX]; exact wkc_length _ _ _ _ (by simp)
  have hX1 : ∀ u ∈ X, u.oneCell' = true := by rw [hX]; exact wkc_one _ _ _ _
  have hXb : Tryd.prog.built 68 [(0, .agg (wvs st0.l).toArray)] = some X.toArray := by rw [hX]; exact built47
  have hXs : (Tryd.prog.info? 68).map (·.size) = some X.length := by rw [hXl]; exact size74
  have hXz : zw.length = X.length := by rw [hXl]; rfl
  have HX := Lib.hid hX
  have HX1 := Lib.hid hX1
  have HXb := Lib.hid hXb
  have HXs := Lib.hid hXs
  have HXz := Lib.hid hXz
  clear hX hXl hX1 hXb hXs hXz
  go_enter Tryd.func20, Tryd.ntmps20
  go_wp2_with (with_reducible change wpList _ _ _ (⟨_, Op.alloc _, _, _, _, _⟩ :: _) _ _; refine wpList_alloc_blk rfl 32 rfl _ zero32 ?_)
  intro w1 hR1 hk1 hs1
  have hgl1 := hgl.kept0 hk1
  have hrange : w1.rangeAt 0 0 (wvs st0.l) := fun j v hv => by
    have hj : j < 8 := (List.getElem?_eq_some_iff.1 hv).1
    rw [Nat.zero_add, hgl1.1 j hj, ← hv, wvs_get st0.l j hj]
  have Hr := Lib.hid hrange
  clear hrange
  go_wp2_with (first
    | (with_reducible change wpList _ _ _ (⟨_, Op.load _ _, _, _, _, _⟩ :: _) _ _; refine wpList_load_mid rfl 65 (.global 0) rfl 0 0 rfl (wvs st0.l) _ Hr.out Tryd.underlying65 rfl (size8w st0) ?_)
    | (with_reducible change wpList _ _ _ (⟨_, Op.build _ _, _, _, _, _⟩ :: _) _ _; refine wpList_buildTo rfl 68 _ rfl _ rfl X.toArray (by simpa [Act.eval, Act.put] using HXb.out) ?_)
    | (with_reducible change wpList _ _ _ (⟨_, Op.alloc _, _, _, _, _⟩ :: _) _ _; refine wpList_alloc_blk rfl 68 rfl _ zero74 ?_))
  intro w2 hG2 hk2 hs2
  go_wp2_with (with_reducible change wpList _ _ _ (⟨_, Op.store _ _ _, _, _, _, _⟩ :: _) _ _; refine wpList_store_blk rfl 68 (.tmp 3) (.tmp 7) rfl (w.heap.size + 1) X rfl rfl 68 zw hG2 HXs.out HXz.out HX1.out ?_)
  intro w3 hG3 hk3 hs3
  have hK3 : Kept [] w w3 := (hk1.andThen hk2).trans hk3 (by simp)
  have hR3 := (hR1.kept0 hk2).kept hk3 (by simp)
  have hW3 : WkL w3 (w.heap.size + 1) 68 [] 0 := ⟨List.replicate 64 0, by simp, by rw [HX.out] at hG3; exact hG3, rfl⟩
  have hgl3 := hgl.kept0 hK3
  have hlen := hr.len
  clear hR1 hk1 hs1 hG2 hk2 hs2 hk3 hs3 hG3 Hr hgl1 hgl
  go_wp2
  go_loopw [10] (fun i wr => ∃ k : Nat, k ≤ n ∧ i = .int .i64 k ∧ WkL wr (w.heap.size + 1) 68 (ls.take k).flatten (ls.take k).flatten.length ∧ Glob wr ∧ Kept [] w wr ∧ Blk wr w.heap.size 32 (zb 32)) (fun i _ => n - (intOf i).toNat)
  case atStart => exact ⟨0, by omega, rfl, hW3, hgl3, hK3, hR3⟩
  case round =>
    clear hW3 hgl3 hK3 hR3
    obtain ⟨k, hk, rfl, hW, hgl, hK, hR⟩ := hrel
    by_cases hlt : k < n
    · obtain ⟨b, off, rfl, hb, hcs⟩ := hr.cells (by omega)
      have hkl : k < ls.length := by omega
      obtain ⟨Aj, nj, cj, c0, hrj0⟩ := hcs k hkl
      have c1 := (hK.cell (p := ⟨b, off + k, none⟩) hb (by simp)).trans c0
      have hrj := hrj0.kept0 hK
      have hts : (ls.take (k + 1)).flatten = (ls.take k).flatten ++ ls[k] := by
        rw [take_step ls k ls[k] (List.getElem?_eq_getElem hkl), List.flatten_append]; simp
      have hbound : (ls.take k).flatten.length + nj < 1099511627776 := by
        have e1 := hrj.len
        have e2 : ls.flatten = (ls.take (k + 1)).flatten ++ (ls.drop (k + 1)).flatten := by rw [← List.flatten_append, List.take_append_drop]
        have e3 := congrArg List.length e2
        rw [hts, List.length_append, List.length_append] at e3
        omega
      have hoff : 0 < nj → Off Aj [w.heap.size + 1] := fun hp a ha hm => by
        obtain ⟨b2, o2, e2, hb2, _⟩ := hrj0.at_ hp
        rw [ha] at e2
        injection e2 with e2
        have := List.mem_singleton.1 hm
        rw [e2] at this
        simp at this
        omega
      have Hts := Lib.hid hts
      have Hlj := Lib.hid hrj.len
      clear hcs hts c0 hrj0
      generalize ls[k] = tk at *
      go_wp2_with fail
      refine (take_any (w.heap.size + 1) _ tk _ Aj nj cj _ hW hrj hoff hgl (by omega) hbound).mono ?_
      rintro e w4 ⟨rfl, hW4, hk4⟩
      have hgl4 := hgl.kept hk4 (fun hm => by have := List.mem_singleton.1 hm; omega) (fun hm => by have := List.mem_singleton.1 hm; omega)
      have hK4 : Kept [] w w4 := hK.trans hk4 (by simp)
      have hR4 := hR.kept hk4 (by simp)
      clear hW hgl hK hR hk4
      go_wp2
      go_roundw
      case rel => exact ⟨k + 1, by omega, by go_num, by rw [Hts.out, List.length_append, Hlj.out]; exact hW4, hgl4, hK4, hR4⟩
      case measure => simp [intOf]; omega
    · obtain rfl : k = n := by omega
      rw [List.take_of_length_le (by omega)] at hW
      go_wp2_with fail
      refine (wend_any (w.heap.size + 1) _ _ _ hW hgl (by omega) (by omega)).mono ?_
      rintro e w4 ⟨rfl, hW4, hk4⟩
      have hK4 : Kept [] w w4 := hK.trans hk4 (by simp)
      have hR4 := hR.kept hk4 (by simp)
      obtain ⟨blk, hl, hB, hw⟩ := hW4
      go_wp2_with fail
      refine (wkey_any (w.heap.size + 1) _ blk _ _ _ hB).mono ?_
      rintro e w5 ⟨rfl, hk5⟩
      have hsum : stBytes (run st0 (ls.flatten ++ tail8 ls.flatten.length)) = shaSum ls.flatten := by rw [shaSum_eq]; rfl
      rw [hsum]
      have hK5 := hK4.andThen hk5
      have hR5 := hR4.kept0 hk5
      have hi : (Tryd.prog.info? 32).map (·.size) = some (bvs (shaSum ls.flatten)).length := by rw [bvs_length, shaSum_length]; exact size32
      have hz : (zb 32).length = (bvs (shaSum ls.flatten)).length := by rw [bvs_length, shaSum_length]; simp [zb, bvs]
      have H1 := Lib.hid hi
      have H2 := Lib.hid hz
      clear hi hz hsum hW hgl hK hR hk4 hK4 hR4 hl hB hw hk5
      go_wp2_with (with_reducible change wpList _ _ _ (⟨_, Op.store _ _ _, _, _, _, _⟩ :: _) _ _; refine wpList_store_blk rfl 32 (.tmp 2) (.tmp 18) rfl w.heap.size (bvs (shaSum ls.flatten)) rfl rfl 32 (zb 32) hR5 H1.out H2.out (bvs_one _) ?_)
      intro w6 hR6 hk6 hs6
      go_wp2
      refine bodyPost_ret (results_blk rfl _ w.heap.size 32 _ _ rfl hR6 Tryd.underlying32 rfl H1.out) rfl ?_
      exact ⟨rfl, hK5.trans hk6 (by simp)⟩
end Go.Proofs.YtmhigipljplgdaaDoor
/-
  Contract of Sum, layer 2 (sha). No statement of the seed is proved here.
-/
namespace Go.Proofs.YtmhigipljplgdaaDoor
open Go.RowKit
set_option linter.unusedVariables false

theorem key_size (l : List UInt8) : (Tryd.prog.info? 32).map (·.size) = some (bvs (shaSum l)).length := by rw [bvs_length, shaSum_length]; exact size32
theorem key_zb (l : List UInt8) : (zb 32).length = (bvs (shaSum l)).length := by rw [bvs_length, shaSum_length]; simp [zb, bvs]

theorem sum_any (A : Option Addr) (n c : Nat) (bs : List UInt8) (w : World) (hr : RdB w A n c bs) (hgl : Glob w) (hL : n < 1099511600000) :
    Calls Tryd.prog 17 #[.slice A n c] w (KeyRet (shaSum bs) w) := by
  have hl := hr.len
  have hfl : [bs].flatten = bs := by simp
  go_enter Tryd.func17, Tryd.ntmps17
  go_wp2_with (with_reducible change wpList _ _ _ (⟨_, Op.alloc _, _, _, _, _⟩ :: _) _ _; refine wpList_alloc_blk rfl 32 rfl _ zero32 ?_)
  intro w1 hR1 hk1 hs1
  have hr1 := RdL.one 53 (hr.kept0 hk1)
  go_wp2_with fail
  have ha : Kept [] w1 (w1.alloc (.cells #[.slice A n c] 53)) := (Kept.refl [] w1).alloc _
  refine (digest_any _ 1 1 [bs] _ (by rw [← hs1]; exact hr1) ((hgl.kept0 hk1).kept0 ha) (by rw [hfl]; omega)).mono ?_
  rw [hfl]
  rintro e w2 ⟨rfl, hk2⟩
  have hR2 := (hR1.kept0 ha).kept0 hk2
  go_wp2_with (with_reducible change wpList _ _ _ (⟨_, Op.store _ _ _, _, _, _, _⟩ :: _) _ _; refine wpList_store_blk rfl 32 (.tmp 2) (.tmp 5) rfl w.heap.size (bvs (shaSum bs)) rfl rfl 32 (zb 32) hR2 (key_size _) (key_zb _) (bvs_one _) ?_)
  intro w6 hR6 hk6 hs6
  go_wp2
  refine bodyPost_ret (results_blk rfl _ w.heap.size 32 _ _ rfl hR6 Tryd.underlying32 rfl (key_size _)) rfl ?_
  exact ⟨rfl, ((hk1.andThen ha).andThen hk2).trans hk6 (by simp)⟩
end Go.Proofs.YtmhigipljplgdaaDoor
