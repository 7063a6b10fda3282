/-
  Texts of mine, one behind the other, in one file. No statement of the seed is proved here.
-/
import Derived.WalkKit
import Derived.ProofKit
import Derived.Below
import Derived.Lib.Hide
import Derived.Maps.AppendAt
import Derived.Laws.OwnMore
import Derived.Laws.Rows
import Derived.Deep.Draws
import Derived.OwnWalk
import Derived.WalkLawsBesides
import Derived.Deep.MidRow
import Derived.Deep.WholeRow
import Derived.Laws.CopyOwn
import Derived.Great.Walk
import Derived.Laws.IdiomStrings
import Derived.Laws.RangeAny
import Derived.Lib.OthersKept
import Derived.Laws.Strings3
import Derived.Laws.Concat
import Derived.Test.YtibcjbelcplpjaaDoorChecked
import Derived.Deep.RegionLaw
import Derived.Laws.BitsAllLaws
import Derived.Stop.BytesEq
import Derived.OpenShut
import Derived.ShutString
import Derived.ChangeOld
import Derived.Deep.Slices
import Derived.Deep.Fields
import Derived.Outline
import Derived.WalkSpells
import Derived.Deep.QuietTactic
import Derived.BigQuiet
import Derived.StillTailTactics
import Derived.RegionTactic
import Derived.Lib.Strings
import Derived.Lib.Small
import Derived.Lib.Walk
import Derived.Deep.RegionHeld3
import Derived.Laws.IdiomCopy
/-
  Plain mathematics of layer 1: bytes of numbers, small numbers. Nothing of the program here.
-/
namespace Go.Proofs.YtibcjbelcplpjaaDoor

theorem snoc_ind {α : Type} {P : List α → Prop} (h0 : P []) (hs : ∀ l b, P l → P (l ++ [b])) (l : List α) : P l := by
  have h : ∀ r : List α, P r.reverse := by
    intro r
    induction r with
    | nil => exact h0
    | cons b r ih => rw [List.reverse_cons]; exact hs _ _ ih
  have := h l.reverse
  rwa [List.reverse_reverse] at this

/-- The lowest n bytes of x, the highest first. -/
def be : Nat → Nat → List UInt8
  | 0, _ => []
  | n + 1, x => be n (x / 256) ++ [UInt8.ofNat x]
theorem be_length : ∀ n x, (be n x).length = n
  | 0, _ => rfl
  | n + 1, x => by simp [be, be_length n]
/-- The number that bytes tell, the highest first. -/
def num (bs : List UInt8) : Nat := bs.foldl (fun x b => x * 256 + b.toNat) 0
theorem num_snoc (bs : List UInt8) (b : UInt8) : num (bs ++ [b]) = num bs * 256 + b.toNat := by simp [num]
theorem take_step {α : Type} (l : List α) (k : Nat) (y : α) (h : l[k]? = some y) : l.take (k + 1) = l.take k ++ [y] := by
  obtain ⟨hk, e⟩ := List.getElem?_eq_some_iff.1 h
  rw [List.take_succ_eq_append_getElem hk, e]
theorem ofNat_toNat (x : Nat) : (UInt8.ofNat x).toNat = x % 256 := by simp
theorem num_be : ∀ n x, x < 256 ^ n → num (be n x) = x
  | 0, x, h => by simp at h; subst h; rfl
  | n + 1, x, h => by
    rw [be, num_snoc, num_be n (x / 256) (by rw [Nat.pow_succ] at h; omega), ofNat_toNat]
    omega
theorem num_lt (bs : List UInt8) : num bs < 256 ^ bs.length := by
  refine snoc_ind (P := fun bs => num bs < 256 ^ bs.length) (by simp [num]) (fun l b ih => ?_) bs
  · show num (l ++ [b]) < 256 ^ (l ++ [b]).length
    rw [num_snoc, List.length_append, List.length_singleton, Nat.pow_succ]
    have := b.toNat_lt
    omega
theorem be_num (bs : List UInt8) : be bs.length (num bs) = bs := by
  refine snoc_ind (P := fun bs => be bs.length (num bs) = bs) rfl (fun l b ih => ?_) bs
  · show be (l ++ [b]).length (num (l ++ [b])) = l ++ [b]
    rw [List.length_append, List.length_singleton, be, num_snoc]
    have hb := b.toNat_lt
    have e : (num l * 256 + b.toNat) / 256 = num l := by omega
    have e2 : UInt8.ofNat (num l * 256 + b.toNat) = b := by
      apply UInt8.toNat_inj.1
      rw [ofNat_toNat]
      omega
    rw [e, e2, ih]

/-- How many bytes a number below 2^64 needs, at least one. -/
def wid (x : Nat) : Nat :=
  if x < 256 then 1 else if x < 65536 then 2 else if x < 16777216 then 3 else if x < 4294967296 then 4 else if x < 1099511627776 then 5 else if x < 281474976710656 then 6 else if x < 72057594037927936 then 7 else 8
theorem wid_pos (x : Nat) : 1 ≤ wid x ∧ wid x ≤ 8 := by unfold wid; split <;> (try split) <;> (try split) <;> (try split) <;> (try split) <;> (try split) <;> (try split) <;> omega
theorem wid_small (x : Nat) (h : x < 4294967296) : wid x ≤ 4 := by unfold wid; split <;> (try split) <;> (try split) <;> (try split) <;> omega
theorem wid_lt (x : Nat) (h : x < 18446744073709551616) : x < 256 ^ wid x := by
  unfold wid; split <;> (try split) <;> (try split) <;> (try split) <;> (try split) <;> (try split) <;> (try split) <;> simp <;> omega
theorem wid_le (x n : Nat) (h0 : 1 ≤ n) (h8 : n ≤ 8) (hx : x < 18446744073709551616) : wid x ≤ n ↔ x < 256 ^ n := by
  have h : n = 1 ∨ n = 2 ∨ n = 3 ∨ n = 4 ∨ n = 5 ∨ n = 6 ∨ n = 7 ∨ n = 8 := by omega
  unfold wid
  rcases h with rfl | rfl | rfl | rfl | rfl | rfl | rfl | rfl <;> (split <;> (try split) <;> (try split) <;> (try split) <;> (try split) <;> (try split) <;> (try split) <;> simp <;> omega)
theorem wid_div (z : Nat) (h : 255 < z) (h2 : z < 18446744073709551616) : wid (z / 256) + 1 = wid z := by
  have e1 : (z / 256 < 256) = (z < 65536) := by simp; omega
  have e2 : (z / 256 < 65536) = (z < 16777216) := by simp; omega
  have e3 : (z / 256 < 16777216) = (z < 4294967296) := by simp; omega
  have e4 : (z / 256 < 4294967296) = (z < 1099511627776) := by simp; omega
  have e5 : (z / 256 < 1099511627776) = (z < 281474976710656) := by simp; omega
  have e6 : (z / 256 < 281474976710656) = (z < 72057594037927936) := by simp; omega
  unfold wid
  simp only [e1, e2, e3, e4, e5, e6]
  rw [if_neg (by omega : ¬ z < 256)]
  split <;> (try split) <;> (try split) <;> (try split) <;> (try split) <;> (try split) <;> (try split) <;> omega
/-- How many bytes follow a small number's first one. -/
def fol (x : Nat) : Nat := if x ≤ 250 then 0 else wid x
/-- A small number's bytes. -/
def sm (x : Nat) : List UInt8 := if x ≤ 250 then [UInt8.ofNat x] else UInt8.ofNat (250 + wid x) :: be (wid x) x
theorem sm_length (x : Nat) : (sm x).length = 1 + fol x := by unfold sm fol; split <;> simp [be_length] <;> omega

/-- A small number that bytes begin with: the number, how many bytes tell it, the error (then both are 0). -/
def tsm (bs : List UInt8) (most : Nat) : Nat × Nat × Nat :=
  match bs with
  | [] => (0, 0, 1)
  | b :: rest =>
    if b.toNat = 255 then (0, 0, 2)
    else if b.toNat ≤ 250 then (if most < b.toNat then (0, 0, 3) else (b.toNat, 1, 0))
    else if rest.length < b.toNat - 250 then (0, 0, 1)
    else if fol (num (rest.take (b.toNat - 250))) ≠ b.toNat - 250 then (0, 0, 2)
    else if most < num (rest.take (b.toNat - 250)) then (0, 0, 3)
    else (num (rest.take (b.toNat - 250)), 1 + (b.toNat - 250), 0)
/-- A number of n bytes that bytes begin with. -/
def tnum (bs : List UInt8) (n : Int) : Nat × Nat × Nat :=
  if n < 1 ∨ 8 < n then (0, 0, 14) else if bs.length < n.toNat then (0, 0, 1) else (num (bs.take n.toNat), n.toNat, 0)
/-- A text that bytes begin with. -/
def ttext (bs : List UInt8) (most : Int) : List UInt8 × Nat × Nat :=
  if (tsm bs (max most 0).toNat).2.2 ≠ 0 then ([], 0, (tsm bs (max most 0).toNat).2.2)
  else if bs.length - (tsm bs (max most 0).toNat).2.1 < (tsm bs (max most 0).toNat).1 then ([], 0, 1)
  else ((bs.drop (tsm bs (max most 0).toNat).2.1).take (tsm bs (max most 0).toNat).1, (tsm bs (max most 0).toNat).2.1 + (tsm bs (max most 0).toNat).1, 0)
/-- What is told of a small number is below 2^32, and its bytes are there. -/
theorem tsm_le (bs : List UInt8) (most : Nat) : (tsm bs most).1 < 4294967296 ∧ (tsm bs most).2.1 ≤ bs.length ∧ (tsm bs most).2.1 ≤ 5 ∧ (tsm bs most).2.2 ≤ 3 ∧ ((tsm bs most).2.2 ≠ 0 → tsm bs most = (0, 0, (tsm bs most).2.2)) := by
  unfold tsm
  split
  · simp
  · rename_i b rest
    have hb := b.toNat_lt
    split
    · simp
    · split
      · split <;> simp; omega
      · split
        · simp
        · split
          · simp
          · split
            · simp
            · rename_i h1 _ h3 _ _
              have hlen : (rest.take (b.toNat - 250)).length = b.toNat - 250 := by rw [List.length_take]; omega
              have hN := num_lt (rest.take (b.toNat - 250))
              have h2 : (256 : Nat) ^ (rest.take (b.toNat - 250)).length ≤ 256 ^ 4 := Nat.pow_le_pow_right (by omega) (by omega)
              simp
              omega
end Go.Proofs.YtibcjbelcplpjaaDoor
/-
  Plain mathematics of layer 13: a frame's name: hexadecimal digits, decimal digits; unlike ones are unlike. Nothing of the program here.
-/
namespace Go.Proofs.YtibcjbelcplpjaaDoor
set_option linter.unusedVariables false

def hexD (d : Nat) : UInt8 := if d < 10 then UInt8.ofNat (48 + d) else UInt8.ofNat (87 + d)
def hex2 (b : UInt8) : List UInt8 := [hexD (b.toNat / 16), hexD (b.toNat % 16)]
def hexL : List UInt8 → List UInt8
  | [] => []
  | b :: r => hex2 b ++ hexL r
theorem hexL_append (a b : List UInt8) : hexL (a ++ b) = hexL a ++ hexL b := by
  induction a with
  | nil => rfl
  | cons x r ih => simp [hexL, ih]
theorem hexL_length (a : List UInt8) : (hexL a).length = 2 * a.length := by
  induction a with
  | nil => rfl
  | cons x r ih => simp [hexL, hex2, ih]; omega
theorem hexD_val {d : Nat} (h : d < 16) : (hexD d).toNat = if d < 10 then 48 + d else 87 + d := by
  unfold hexD
  split <;> rw [ofNat_toNat] <;> omega
theorem hexD_inj {d e : Nat} (hd : d < 16) (he : e < 16) (h : hexD d = hexD e) : d = e := by
  have h1 := congrArg UInt8.toNat h
  rw [hexD_val hd, hexD_val he] at h1
  split at h1 <;> split at h1 <;> omega
theorem hexL_inj : ∀ {a b : List UInt8}, hexL a = hexL b → a = b
  | [], [], _ => rfl
  | [], y :: s, h => by simp [hexL, hex2] at h
  | x :: r, [], h => by simp [hexL, hex2] at h
  | x :: r, y :: s, h => by
    simp only [hexL, hex2, List.cons_append, List.nil_append, List.cons.injEq] at h
    obtain ⟨h1, h2, h3⟩ := h
    have hx := x.toNat_lt
    have hy := y.toNat_lt
    have e1 := hexD_inj (by omega) (by omega) h1
    have e2 := hexD_inj (by omega) (by omega) h2
    rw [hexL_inj h3, show x = y from UInt8.toNat_inj.1 (by omega)]

/-- A number's digits. -/
@[irreducible] def decN (n : Nat) : List UInt8 := if h : n < 10 then [UInt8.ofNat (48 + n)] else decN (n / 10) ++ [UInt8.ofNat (48 + n % 10)]
termination_by n
theorem decN_lo {n : Nat} (h : n < 10) : decN n = [UInt8.ofNat (48 + n)] := by unfold decN; rw [dif_pos h]
theorem decN_hi {n : Nat} (h : ¬ n < 10) : decN n = decN (n / 10) ++ [UInt8.ofNat (48 + n % 10)] := by rw [decN, dif_neg h]
def decV (l : List UInt8) : Nat := l.foldl (fun x b => x * 10 + (b.toNat - 48)) 0
theorem decV_snoc (l : List UInt8) (b : UInt8) : decV (l ++ [b]) = decV l * 10 + (b.toNat - 48) := by simp [decV]
theorem decV_decN (n : Nat) : decV (decN n) = n := by
  induction n using Nat.strongRecOn with
  | ind n ih =>
    by_cases h : n < 10
    · rw [decN_lo h]
      show 0 * 10 + ((UInt8.ofNat (48 + n)).toNat - 48) = n
      rw [ofNat_toNat]
      omega
    · rw [decN_hi h, decV_snoc, ih (n / 10) (by omega), ofNat_toNat]
      omega
theorem decN_inj {a b : Nat} (h : decN a = decN b) : a = b := by rw [← decV_decN a, h, decV_decN b]
theorem decN_head (n : Nat) : ∃ b r, decN n = b :: r ∧ b.toNat ≠ 45 := by
  induction n using Nat.strongRecOn with
  | ind n ih =>
    by_cases h : n < 10
    · exact ⟨_, [], decN_lo h, by rw [ofNat_toNat]; omega⟩
    · obtain ⟨b, r, e, hb⟩ := ih (n / 10) (by omega)
      exact ⟨b, r ++ [UInt8.ofNat (48 + n % 10)], by rw [decN_hi h, e]; rfl, hb⟩
@[irreducible] def decZ (z : Int) : List UInt8 := if z < 0 then 45 :: decN z.natAbs else decN z.natAbs
theorem decZ_neg {z : Int} (h : z < 0) : decZ z = 45 :: decN z.natAbs := by unfold decZ; rw [if_pos h]
theorem decZ_pos {z : Int} (h : ¬ z < 0) : decZ z = decN z.natAbs := by unfold decZ; rw [if_neg h]
theorem decZ_inj {a b : Int} (h : decZ a = decZ b) : a = b := by
  by_cases ha : a < 0
  · by_cases hb : b < 0
    · rw [decZ_neg ha, decZ_neg hb] at h
      have := decN_inj (List.cons.inj h).2
      omega
    · rw [decZ_neg ha, decZ_pos hb] at h
      obtain ⟨x, r, e, hx⟩ := decN_head b.natAbs
      rw [e] at h
      exact absurd (congrArg UInt8.toNat (List.cons.inj h).1).symm hx
  · by_cases hb : b < 0
    · rw [decZ_pos ha, decZ_neg hb] at h
      obtain ⟨x, r, e, hx⟩ := decN_head a.natAbs
      rw [e] at h
      exact absurd (congrArg UInt8.toNat (List.cons.inj h).1) hx
    · rw [decZ_pos ha, decZ_pos hb] at h
      have := decN_inj h
      omega
theorem decN_length {n k : Nat} (h : n < 10 ^ k) (hk : 1 ≤ k) : (decN n).length ≤ k := by
  induction k generalizing n with
  | zero => omega
  | succ k ih =>
    by_cases hn : n < 10
    · rw [decN_lo hn]; simp
    · rw [decN_hi hn, List.length_append, List.length_singleton]
      have hk1 : 1 ≤ k := by
        rcases Nat.eq_zero_or_pos k with h0 | h0
        · subst h0; simp at h; omega
        · exact h0
      have := ih (n := n / 10) (by rw [Nat.pow_succ] at h; omega) hk1
      omega
/-- A frame's name. -/
@[irreducible] def nameL (o : List UInt8) (z : Int) : List UInt8 := 102 :: (hexL o ++ (46 :: decZ z))
theorem nameL_inj {o o' : List UInt8} {z z' : Int} (hl : o.length = o'.length) : nameL o z = nameL o' z' ↔ o = o' ∧ z = z' := by
  constructor
  · intro h
    unfold nameL at h
    have h1 := (List.cons.inj h).2
    obtain ⟨h2, h3⟩ := List.append_inj h1 (by rw [hexL_length, hexL_length, hl])
    exact ⟨hexL_inj h2, decZ_inj (List.cons.inj h3).2⟩
  · rintro ⟨rfl, rfl⟩
    rfl
end Go.Proofs.YtibcjbelcplpjaaDoor
/-
  Helper words on memory for this seat's walks: which old blocks a call may have turned ('Kept'), a byte slice that reads as a list ('RdB'), a byte row of the call's own ('OwB'). No statement of the seed is proved here.
-/
namespace Go.Proofs.YtibcjbelcplpjaaDoor
open Go.RowKit

/-! ### which old blocks have turned -/
/-- All old blocks but those listed are as they were; the streams are; no block has gone. -/
structure Kept (S : List Nat) (w w' : World) : Prop where
  os : w'.os = w.os
  tape : w'.tape = w.tape
  output : w'.output = w.output
  size : w.heap.size ≤ w'.heap.size
  block : ∀ k, k < w.heap.size → k ∉ S → w'.heap[k]? = w.heap[k]?

section
variable {S T : List Nat} {a b c w w' : World}
theorem Kept.refl (S : List Nat) (w : World) : Kept S w w := ⟨rfl, rfl, rfl, Nat.le_refl _, fun _ _ _ => rfl⟩
theorem Kept.trans (h : Kept S a b) (k : Kept T b c) (hT : ∀ i, i ∈ T → i ∈ S ∨ a.heap.size ≤ i) : Kept S a c :=
  ⟨k.os.trans h.os, k.tape.trans h.tape, k.output.trans h.output, Nat.le_trans h.size k.size, fun i hi hn =>
    (k.block i (Nat.lt_of_lt_of_le hi h.size) (fun hm => by
      rcases hT i hm with g | g
      · exact hn g
      · omega)).trans (h.block i hi hn)⟩
theorem Kept.andThen (h : Kept S a b) (k : Kept [] b c) : Kept S a c := h.trans k (by simp)
theorem Kept.mono (h : Kept S a b) (hS : ∀ i, i ∈ S → i ∈ T ∨ a.heap.size ≤ i) : Kept T a b :=
  ⟨h.os, h.tape, h.output, h.size, fun i hi hn => h.block i hi (fun hm => by
    rcases hS i hm with g | g
    · exact hn g
    · omega)⟩
theorem Kept.drew (h : Kept S a b) : Kept S a b.drew := ⟨h.os, h.tape, h.output, h.size, h.block⟩
theorem Kept.drewN (h : Kept S a b) (n : Nat) : Kept S a (b.drewN n) := ⟨h.os, h.tape, h.output, h.size, h.block⟩
theorem Kept.alloc (h : Kept S a b) (o : Obj) : Kept S a (b.alloc o) :=
  h.trans (T := []) ⟨rfl, rfl, rfl, by simp, fun k hk _ => Below.heap_alloc _ _ _ hk⟩ (by simp)
theorem Kept.setCell (h : Kept S a b) {p : Addr} (hp : p.block ∈ S ∨ a.heap.size ≤ p.block) (u : Value) : Kept S a (b.setCell p u) :=
  h.trans (T := [p.block]) ⟨rfl, rfl, rfl, by simp [World.setCell], fun k _ hk => Below.heap_setCell _ _ _ _ (by simpa using hk)⟩ (by simpa using hp)
theorem Kept.grown (h : Kept S a b) {row : Option Nat} (hg : b.grownBy c row) (hr : ∀ k, row = some k → k ∈ S ∨ a.heap.size ≤ k) : Kept S a c :=
  h.trans (T := row.toList) ⟨hg.os, hg.tape, hg.output, hg.size, fun k hk hn => hg.block k hk (fun e => hn (by simp [← e]))⟩ (by
    intro i hi
    exact hr i (by simpa using hi))
theorem Kept.of_below (h : Below w.heap.size w w') : Kept [] w w' := ⟨h.os, h.tape, h.output, h.size, fun k hk _ => h.block k hk⟩
theorem Kept.of_below' (S : List Nat) (h : Below w.heap.size w w') : Kept S w w' := ⟨h.os, h.tape, h.output, h.size, fun k hk _ => h.block k hk⟩
theorem Kept.below (h : Kept S w w') {B : Nat} (hB : B ≤ w.heap.size) (hS : ∀ k, k ∈ S → B ≤ k) : Below B w w' :=
  ⟨h.os, h.tape, h.output, h.size, fun k hk => h.block k (by omega) (fun hm => by have := hS k hm; omega)⟩
theorem Kept.below0 (h : Kept [] w w') : Below w.heap.size w w' := h.below (Nat.le_refl _) (by simp)
theorem Kept.cell (h : Kept S w w') {p : Addr} (hp : p.block < w.heap.size) (hn : p.block ∉ S) : w'.cell? p = w.cell? p := World.cell?_of_block (w := w) (h.block p.block hp hn)
theorem Kept.frozen (h : Kept S w w') {p : Addr} (hp : p.block < w.heap.size) (hn : p.block ∉ S) : w'.frozen? p = w.frozen? p := World.frozen?_of_block (w := w) (h.block p.block hp hn)
theorem Kept.lt (h : Kept S w w') {k : Nat} (hk : k < w.heap.size) : k < w'.heap.size := Nat.lt_of_lt_of_le hk h.size
end

/-! ### bytes -/
/-- A byte's cell. -/
def bcell (b : UInt8) : Value := .int .u8 (b.toNat : Int)
/-- A text's cells. -/
def bvs (bs : List UInt8) : List Value := bs.map bcell
theorem bvs_length (bs : List UInt8) : (bvs bs).length = bs.length := by simp [bvs]
theorem bvs_append (a b : List UInt8) : bvs (a ++ b) = bvs a ++ bvs b := by simp [bvs]
theorem bvs_one (bs : List UInt8) : ∀ u ∈ bvs bs, u.oneCell' = true := by
  intro u hu
  simp only [bvs, List.mem_map] at hu
  obtain ⟨b, _, rfl⟩ := hu
  rfl
theorem bvs_get (bs : List UInt8) (j : Nat) (h : j < bs.length) : (bvs bs)[j]? = some (bcell bs[j]) := by simp [bvs, h]
theorem bvs_inj : ∀ (a b : List UInt8), bvs a = bvs b → a = b
  | [], [], _ => rfl
  | [], y :: ys, h => by simp [bvs] at h
  | x :: xs, [], h => by simp [bvs] at h
  | x :: xs, y :: ys, h => by
    simp only [bvs, List.map_cons, List.cons.injEq, bcell, Value.int.injEq, true_and, Int.natCast_inj] at h
    rw [UInt8.toNat_inj.1 h.1, bvs_inj xs ys (by simpa [bvs, bcell] using h.2)]

/-- The block that a slice's address lies in is none of these. -/
def Off (A : Option Addr) (S : List Nat) : Prop := ∀ a : Addr, A = some a → a.block ∉ S

/-- The slice '.slice A n c' reads as the bytes bs. -/
structure RdB (w : World) (A : Option Addr) (n c : Nat) (bs : List UInt8) : Prop where
  len : bs.length = n
  cap : n ≤ c
  most : c ≤ maxLen
  cells : 0 < n → ∃ b off, A = some ⟨b, off, none⟩ ∧ ∀ j, (h : j < bs.length) → w.cell? ⟨b, off + j, none⟩ = some (bcell bs[j])

section
variable {w w' : World} {A : Option Addr} {n c : Nat} {bs : List UInt8} {S : List Nat}
theorem RdB.nil (w : World) : RdB w none 0 0 [] := ⟨rfl, Nat.le_refl _, by simp [maxLen], fun h => absurd h (by omega)⟩
theorem RdB.empty (w : World) (A : Option Addr) (c : Nat) (hc : c ≤ maxLen) : RdB w A 0 c [] := ⟨rfl, Nat.zero_le _, hc, fun h => absurd h (by omega)⟩
theorem RdB.at_ (h : RdB w A n c bs) (hn : 0 < n) : ∃ b off, A = some ⟨b, off, none⟩ ∧ b < w.heap.size ∧ ∀ j, (hj : j < bs.length) → w.cell? ⟨b, off + j, none⟩ = some (bcell bs[j]) := by
  obtain ⟨b, off, e, hc⟩ := h.cells hn
  have hl := h.len
  have h0 := hc 0 (by omega)
  exact ⟨b, off, e, World.block_lt_of_cell? w _ h0, hc⟩
/-- One byte of it. -/
theorem RdB.byte (h : RdB w A n c bs) {k : Nat} (hk : k < n) : ∃ (b off : Nat) (y : UInt8), A = some ⟨b, off, none⟩ ∧ w.cell? ⟨b, off + k, none⟩ = some (.int .u8 (y.toNat : Int)) ∧ bs[k]? = some y ∧ y.toNat < 256 := by
  obtain ⟨b, off, e, hc⟩ := h.cells (by omega)
  have hl := h.len
  exact ⟨b, off, bs[k]'(by omega), e, hc k (by omega), List.getElem?_eq_getElem (by omega), UInt8.toNat_lt _⟩
theorem RdB.keep (h : RdB w A n c bs) (hk : ∀ b off, A = some ⟨b, off, none⟩ → b < w.heap.size → w'.heap[b]? = w.heap[b]?) : RdB w' A n c bs :=
  ⟨h.len, h.cap, h.most, fun hn => by
    obtain ⟨b, off, e, hb, hc⟩ := h.at_ hn
    exact ⟨b, off, e, fun j hj => (World.cell?_of_block (w := w) (hk b off e hb)).trans (hc j hj)⟩⟩
theorem RdB.kept (h : RdB w A n c bs) (hk : Kept S w w') (hS : Off A S) : RdB w' A n c bs :=
  h.keep fun b _ e hb => hk.block b hb (hS _ e)
theorem RdB.keptIf (h : RdB w A n c bs) (hk : Kept S w w') (hS : 0 < n → Off A S) : RdB w' A n c bs := by
  rcases Nat.eq_zero_or_pos n with h0 | h0
  · exact ⟨h.len, h.cap, h.most, fun hp => absurd hp (by omega)⟩
  · exact h.kept hk (hS h0)
theorem RdB.kept0 (h : RdB w A n c bs) (hk : Kept [] w w') : RdB w' A n c bs := h.kept hk (fun _ _ => by simp)
theorem RdB.alloc (h : RdB w A n c bs) (o : Obj) : RdB (w.alloc o) A n c bs := h.kept0 ((Kept.refl [] w).alloc o)
theorem RdB.drew (h : RdB w A n c bs) : RdB w.drew A n c bs := ⟨h.len, h.cap, h.most, h.cells⟩
theorem RdB.drewN (h : RdB w A n c bs) (k : Nat) : RdB (w.drewN k) A n c bs := ⟨h.len, h.cap, h.most, h.cells⟩
theorem RdB.one (w : World) (e : TypeId) (z : Int) (b : UInt8) (hz : z = (b.toNat : Int)) : RdB (w.alloc (.cells #[.int .u8 z] e)) (some ⟨w.heap.size, 0, none⟩) 1 1 [b] := by
  subst hz
  refine ⟨rfl, Nat.le_refl _, by simp [maxLen], fun _ => ⟨w.heap.size, 0, rfl, fun j hj => ?_⟩⟩
  have hj0 : j = 0 := by simpa using hj
  subst hj0
  rw [cell_of_row _ _ _ _ _ _ (heap_alloc_new w _)]
  rfl
theorem RdB.lit (w : World) (e : TypeId) (cs : Array Value) (n : Nat) (bs : List UInt8) (h : cs = (bvs bs).toArray) (hn : bs.length = n) (hm : n ≤ maxLen) : RdB (w.alloc (.cells cs e)) (some ⟨w.heap.size, 0, none⟩) n n bs := by
  subst h
  refine ⟨hn, Nat.le_refl _, hm, fun _ => ⟨w.heap.size, 0, rfl, fun j hj => ?_⟩⟩
  rw [cell_of_row _ _ _ _ _ _ (heap_alloc_new w _), Nat.zero_add]
  have := bvs_get bs j hj
  simpa using this
/-- As the library's append asks for it. -/
theorem RdB.news {a : Addr} (h : RdB w (some a) n c bs) : ∀ j u, (bvs bs)[j]? = some u → w.cell? (a.add j) = some u := by
  intro j u hu
  rcases Nat.lt_or_ge j bs.length with hj | hj
  · have hl := h.len
    obtain ⟨b, off, e, _, hc⟩ := h.at_ (by omega)
    injection e with e
    subst e
    rw [bvs_get bs j hj] at hu
    have := hc j hj
    simp only [Addr.add]
    split
    · rename_i h0
      subst h0
      rw [← hu]
      exact this
    · rw [← hu]
      exact this
  · rw [List.getElem?_eq_none (by rw [bvs_length]; exact hj)] at hu
    cases hu
end

/-- A byte slice value that owns its row, which begins at a block's head: one that can be appended to. 'F': the row's block, if any. -/
def OwB (e : TypeId) (w : World) (v : Value) (bs : List UInt8) : Prop := w.ownsRow 0 e 1 v bs.length (bvs bs)
section
variable {e : TypeId} {w w' : World} {v : Value} {bs : List UInt8} {S : List Nat}
theorem OwB.nil (e : TypeId) (w : World) : OwB e w (.slice none 0 0) [] := World.ownsRow_nil _ _ _ _
theorem OwB.form (h : OwB e w v bs) : ∃ A n c, v = .slice A n c ∧ RdB w A n c bs ∧ (∀ g, v.ownBlock = some g → g < w.heap.size) := by
  rcases h.2 with ⟨rfl, hn⟩ | ⟨g, cap, cur, rfl, _, hg, hnc, hcm, hcs, htake⟩
  · have : bs = [] := List.eq_nil_of_length_eq_zero hn
    subst this
    exact ⟨none, 0, 0, rfl, RdB.nil w, by simp [Value.ownBlock]⟩
  · have hlt : g < w.heap.size := (Array.getElem?_eq_some_iff.1 hg).1
    refine ⟨some ⟨g, 0, none⟩, _, cap, rfl, ⟨rfl, hnc, hcm, fun _ => ⟨g, 0, rfl, fun j hj => ?_⟩⟩, by simp [Value.ownBlock]; omega⟩
    rw [Nat.zero_add]
    rw [cell_of_row w g j cur e (0, 0) hg]
    have := congrArg (fun l : List Value => l[j]?) htake
    simp only [List.getElem?_take] at this
    rw [if_pos (by omega), bvs_get bs j hj] at this
    simpa using this
theorem OwB.keep (h : OwB e w v bs) (hk : ∀ g, v.ownBlock = some g → g < w.heap.size → w'.heap[g]? = w.heap[g]?) : OwB e w' v bs := by
  refine ⟨h.1, ?_⟩
  rcases h.2 with hn | ⟨g, cap, cur, rfl, hb, hg, rest⟩
  · exact .inl hn
  · exact .inr ⟨g, cap, cur, rfl, hb, (hk g rfl (Array.getElem?_eq_some_iff.1 hg).1).trans hg, rest⟩
theorem OwB.kept (h : OwB e w v bs) (hk : Kept S w w') (hS : ∀ g, v.ownBlock = some g → g ∉ S) : OwB e w' v bs := h.keep fun g hg hl => hk.block g hl (hS g hg)
theorem OwB.kept0 (h : OwB e w v bs) (hk : Kept [] w w') : OwB e w' v bs := h.kept hk (fun _ _ => by simp)
theorem OwB.alloc (h : OwB e w v bs) (o : Obj) : OwB e (w.alloc o) v bs := h.kept0 ((Kept.refl [] w).alloc o)
end

/-- Behind an append the row lies where it lay, or in a new block. -/
def Moved (w : World) (v v' : Value) : Prop := ∀ g, v'.ownBlock = some g → v.ownBlock = some g ∨ w.heap.size ≤ g
theorem Moved.refl (w : World) (v : Value) : Moved w v v := fun _ h => .inl h

section
variable {P : Program} {w : World}
/-- append(row, text...), whatever the text is (nil, empty, or not). -/
theorem run_append_bytes (t ty e : TypeId) (i : TypeInfo) (z : Value) (bytes : Nat) (ht : P.underlying t = some (.slice e)) (hi : P.info? e = some i) (hz : i.zero = some z)
    (hsize : i.size = 1) (hby : i.bytes = bytes) (hzs : z.cells.size = 1) {v : Value} {xs : List UInt8} (hown : OwB e w v xs)
    {A : Option Addr} {m c : Nat} {news : List UInt8} (hr : RdB w A m c news) (h63 : xs.length + m ≤ maxLen) (hbytes : (xs.length + m) * bytes ≤ 140737488355328) :
    ∃ v' w', (Builtin.append_ #[t, t] ty #[v, .slice A m c]).run P w = .ok v' w' ∧ OwB e w' v' (xs ++ news) ∧ Kept v.ownBlock.toList w w' ∧ Moved w v v' := by
  rcases A with _ | a
  · have hm : m = 0 := by
      rcases Nat.eq_zero_or_pos m with h0 | h0
      · exact h0
      · obtain ⟨b, off, e, _⟩ := hr.cells h0
        cases e
    subst hm
    have hn : news = [] := List.eq_nil_of_length_eq_zero hr.len
    subst hn
    refine ⟨v, w, ?_, by simpa using hown, Kept.refl _ _, Moved.refl _ _⟩
    rcases hown.2 with ⟨rfl, _⟩ | ⟨g, cap, cur, rfl, _, _, hnc, _⟩
    · simp [Builtin.append_, run_underlying ht, sizeOf, typeInfo, hi, Builtin.lenOf, Builtin.firstCells]
    · simp [Builtin.append_, run_underlying ht, sizeOf, typeInfo, hi, Builtin.lenOf, Builtin.firstCells, hnc, storeCells]
  · obtain ⟨v', w', hrun, h2, h3, _, h5⟩ := run_append_own_at (P := P) w 0 t ty e i z 1 bytes ht hi hz hsize hby hzs (by omega) v xs.length (bvs xs) hown a m c (bvs news)
      (by rw [bvs_length, hr.len]; omega) hr.news (bvs_one _) h63 hbytes (Nat.zero_le _)
    refine ⟨v', w', hrun, ?_, (Kept.refl _ _).grown h3 (by intro k hk; simp [hk]), ?_⟩
    · have := hr.len
      unfold OwB
      rw [bvs_append, List.length_append, this]
      exact h2
    · intro g hg
      rcases h5 with h5 | h5
      · exact .inl (by rw [← h5]; exact hg)
      · rw [h5] at hg
        injection hg with hg
        exact .inr (by omega)

theorem wpList_append_bytes {ops : Array Oper} {rest : List Oper} {o : Oper} {a : Act} {Q : Exit → Act → World → Prop} (hgd : o.guard = none) (s x : Operand) (t : TypeId)
    (ho : o.op = .call { callee := .builtin .append, args := #[s, x], argTypes := #[t, t] })
    (e : TypeId) (i : TypeInfo) (z : Value) (bytes : Nat) (ht : P.underlying t = some (.slice e)) (hi : P.info? e = some i) (hz : i.zero = some z)
    (hsize : i.size = 1) (hby : i.bytes = bytes) (hzs : z.cells.size = 1)
    (v : Value) (xs : List UInt8) (hs : a.eval s = v) (hown : OwB e w v xs)
    (A : Option Addr) (m c : Nat) (news : List UInt8) (hx : a.eval x = .slice A m c) (hr : RdB w A m c news)
    (h63 : xs.length + m ≤ maxLen) (hbytes : (xs.length + m) * bytes ≤ 140737488355328)
    (h : ∀ v' w', OwB e w' v' (xs ++ news) → Kept v.ownBlock.toList w w' → Moved w v v' → wpList P ops Q rest (a.put o.dst v') w') : wpList P ops Q (o :: rest) a w := by
  refine wpList_plain hgd fun K hK => ?_
  obtain ⟨v', w', hrun, h2, h3, h4⟩ := run_append_bytes (P := P) (w := w) t o.type e i z bytes ht hi hz hsize hby hzs hown hr h63 hbytes
  unfold Oper.wp execOp
  simp only [ho, resolve, invoke, builtin, Sem.run_bind, Sem.run_pure, Result.andThen_ok, List.map_toArray, List.map_cons, List.map_nil, hs, hx, hrun]
  exact hK _ _ (h v' w' h2 h3 h4)
end

section
variable {P : Program} {w : World}
theorem bvs_zeros (n : Nat) : bvs (List.replicate n 0) = List.replicate n (.int .u8 0) := by simp [bvs, bcell]
/-- make([]byte, n): n noughts. -/
theorem wpList_make_bytes {ops : Array Oper} {rest : List Oper} {o : Oper} {a : Act} {Q : Exit → Act → World → Prop}
    (hg : o.guard = none) (l c : Operand) (t : TypeId) (hop : o.op = Op.makeSlice t l c) (e : TypeId) (i : TypeInfo) (h1 : P.underlying t = some (.slice e)) (h2 : P.info? e = some i) (h3 : i.zero = some (.int .u8 0)) (h4 : i.size = 1) (h5 : i.bytes = 1)
    (kl kc : IntKind) (L C : Int) (n : Nat) (hl : a.eval l = .int kl L) (hc : a.eval c = .int kc C) (hL : L = (n : Int)) (hC : C = (n : Int)) (b2 : n ≤ 281474976710656)
    (hK : ∀ w', OwB e w' (.slice (some ⟨w.heap.size, 0, none⟩) n n) (List.replicate n 0) → Kept [] w w' → wpList P ops Q rest (a.put o.dst (.slice (some ⟨w.heap.size, 0, none⟩) n n)) w') : wpList P ops Q (o :: rest) a w := by
  refine wpList_make_full w hg l c t hop 0 e i (.int .u8 0) 1 h1 h2 h3 h4 kl kc L C n hl hc hL hC (by rw [h5]; omega) (by simp only [maxLen]; omega) (Nat.zero_le _) fun w' h g => hK w' ?_ ⟨g.os, g.tape, g.output, g.size, fun k hk _ => g.block k hk (by simp)⟩
  have hz : (Value.int .u8 0).cells = #[Value.int .u8 0] := rfl
  rw [hz, toList_madeCells_one, Nat.mul_one] at h
  unfold OwB
  rw [bvs_zeros, List.length_replicate]
  exact h
theorem OwB.set {e : TypeId} {g n c : Nat} {bs : List UInt8} (h : OwB e w (.slice (some ⟨g, 0, none⟩) n c) bs) (j : Nat) (b : UInt8) :
    OwB e (w.setCell ⟨g, j, none⟩ (bcell b)) (.slice (some ⟨g, 0, none⟩) n c) (bs.set j b) := by
  have hn : bs.length = n := by
    obtain ⟨A, m, d, e, hr, _⟩ := h.form
    injection e with e1 e2 e3
    rw [e2]; exact hr.len
  unfold OwB at h ⊢
  rw [hn] at h
  have := (h.stored j (bcell b)).1
  rw [List.length_set, hn]
  have hs : bvs (bs.set j b) = (bvs bs).set j (bcell b) := by simp [bvs, List.map_set]
  rw [hs]
  exact this
theorem OwB.fz {e : TypeId} {g n c : Nat} {bs : List UInt8} (h : OwB e w (.slice (some ⟨g, 0, none⟩) n c) bs) (j : Nat) : w.frozen? ⟨g, j, none⟩ = false := by
  have hn : bs.length = n := by
    obtain ⟨A, m, d, e, hr, _⟩ := h.form
    injection e with e1 e2 e3
    rw [e2]; exact hr.len
  unfold OwB at h
  rw [hn] at h
  exact h.frozenAt j
theorem OwB.rd {e : TypeId} {A : Option Addr} {n c : Nat} {bs : List UInt8} (h : OwB e w (.slice A n c) bs) : RdB w A n c bs := by
  obtain ⟨A', m, d, e, hr, _⟩ := h.form
  injection e with e1 e2 e3
  subst e1 e2 e3
  exact hr
theorem OwB.lt {e : TypeId} {g n c : Nat} {bs : List UInt8} (h : OwB e w (.slice (some ⟨g, 0, none⟩) n c) bs) : g < w.heap.size := by
  obtain ⟨A', m, d, e, hr, hb⟩ := h.form
  exact hb g rfl
end

/-! ### endings -/
theorem ret_int {k : IntKind} {a b : Int} (h : a = b) : Ending.returned (.int k a) = .returned (.int k b) := by rw [h]
theorem ret_bool {a b : Bool} (h : a = b) : Ending.returned (.bool a) = .returned (.bool b) := by rw [h]
end Go.Proofs.YtibcjbelcplpjaaDoor
/-
  Helper words on memory, going on: a block whose cells are known as a list ('Blk'): a variable that is an array or a struct, loaded and stored whole, and cell by cell. No statement of the seed is proved here.
-/
namespace Go.Proofs.YtibcjbelcplpjaaDoor
open Go.RowKit

/-- The block g holds the cells cs, and all may be written. -/
def Blk (w : World) (g : Nat) (t : TypeId) (cs : List Value) : Prop := w.heap[g]? = some (.cells cs.toArray t (0, 0))
section
variable {w w' : World} {g : Nat} {t : TypeId} {cs : List Value} {S : List Nat}
theorem Blk.lt (h : Blk w g t cs) : g < w.heap.size := (Array.getElem?_eq_some_iff.1 h).1
theorem Blk.cell (h : Blk w g t cs) (j : Nat) : w.cell? ⟨g, j, none⟩ = cs[j]? := by rw [cell_of_row w g j _ _ _ h]; simp
theorem Blk.cellD (h : Blk w g t cs) (j : Nat) (hj : j < cs.length) : w.cell? ⟨g, j, none⟩ = some cs[j] := by rw [h.cell, List.getElem?_eq_getElem hj]
theorem Blk.frz (h : Blk w g t cs) (j : Nat) : w.frozen? ⟨g, j, none⟩ = false := frozen_of_row w g j _ _ h
theorem Blk.keep (h : Blk w g t cs) (hk : w'.heap[g]? = w.heap[g]?) : Blk w' g t cs := hk.trans h
theorem Blk.kept (h : Blk w g t cs) (hk : Kept S w w') (hS : g ∉ S) : Blk w' g t cs := h.keep (hk.block g h.lt hS)
theorem Blk.kept0 (h : Blk w g t cs) (hk : Kept [] w w') : Blk w' g t cs := h.kept hk (by simp)
theorem Blk.alloc (h : Blk w g t cs) (o : Obj) : Blk (w.alloc o) g t cs := h.kept0 ((Kept.refl [] w).alloc o)
theorem Blk.drewN (h : Blk w g t cs) (n : Nat) : Blk (w.drewN n) g t cs := h
theorem Blk.drew (h : Blk w g t cs) : Blk w.drew g t cs := h
theorem Blk.new (w : World) (t : TypeId) (cs : List Value) : Blk (w.alloc (.cells cs.toArray t)) w.heap.size t cs := heap_alloc_new w _
theorem Blk.set (h : Blk w g t cs) (j : Nat) (v : Value) : Blk (w.setCell ⟨g, j, none⟩ v) g t (cs.set j v) := by
  unfold Blk
  rw [heap_setCell_same w g j _ _ v h]
  simp
theorem Blk.set_other (h : Blk w g t cs) {b : Nat} (j : Nat) (v : Value) (hb : g ≠ b) : Blk (w.setCell ⟨b, j, none⟩ v) g t cs := h.keep (heap_setCell_other w _ g v hb)
theorem Blk.of_eq (h : Blk w g t cs) {ds : List Value} (e : cs = ds) : Blk w g t ds := e ▸ h
theorem Blk.inj (h : Blk w g t cs) {ds : List Value} {u : TypeId} (k : Blk w g u ds) : cs = ds := by
  unfold Blk at h k
  rw [h] at k
  injection k with k
  injection k with k1
  simpa using k1
/-- A piece of a block that holds bytes, as a byte slice. -/
theorem Blk.rdb (h : Blk w g t cs) (off n c : Nat) (bs : List UInt8) (hb : (cs.drop off).take n = bvs bs) (hl : bs.length = n) (hc : n ≤ c) (hm : c ≤ maxLen) : RdB w (some ⟨g, off, none⟩) n c bs := by
  refine ⟨hl, hc, hm, fun _ => ⟨g, off, rfl, fun j hj => ?_⟩⟩
  rw [h.cell]
  have h1 := congrArg (fun l : List Value => l[j]?) hb
  simp only [List.getElem?_take, List.getElem?_drop] at h1
  rw [if_pos (by omega), bvs_get bs j hj] at h1
  exact h1
end

theorem splice_snoc {α : Type} (L : List α) (off : Nat) (l : List α) (v : α) (h : off + l.length < L.length) : (splice L off l).set (off + l.length) v = splice L off (l ++ [v]) := by
  unfold splice
  have e1 : (L.take off).length = off := by rw [List.length_take]; omega
  rw [List.set_append_right _ _ (by omega), e1, Nat.add_sub_cancel_left, List.set_append_right _ _ (Nat.le_refl _), Nat.sub_self]
  rw [List.append_assoc, List.length_append, List.length_singleton]
  congr 2
  rw [List.drop_eq_getElem_cons (by omega), List.set_cons_zero, List.singleton_append, Nat.add_assoc]
theorem splice_nil {α : Type} (L : List α) (off : Nat) : splice L off [] = L := by simp [splice]

section
variable {P : Program} {w : World}
/-- A new variable of an array's or a struct's type. -/
theorem wpList_alloc_blk {ops : Array Oper} {rest : List Oper} {o : Oper} {a : Act} {Q : Exit → Act → World → Prop} (hg : o.guard = none) (t : TypeId) (ho : o.op = .alloc t) (zs : List Value)
    (hz : (P.info? t).bind (·.zero) = some (.agg zs.toArray))
    (h : ∀ w', Blk w' w.heap.size t zs → Kept [] w w' → w'.heap.size = w.heap.size + 1 → wpList P ops Q rest (a.put o.dst (.pointer (some ⟨w.heap.size, 0, none⟩))) w') : wpList P ops Q (o :: rest) a w := by
  refine wpList_plain hg fun K hK => ?_
  cases hq : P.info? t with
  | none => simp [hq] at hz
  | some i =>
    have hzz : i.zero = some (.agg zs.toArray) := by simpa [hq] using hz
    have hh := h (w.alloc (.cells zs.toArray t)) (Blk.new w t zs) ((Kept.refl [] w).alloc _) (by simp)
    unfold Oper.wp execOp
    simp [ho, Instr.alloc, zeroValue, typeInfo, hq, hzz, newVar, newRow, Value.cells]
    exact hK _ _ hh
/-- All of it stored. -/
theorem wpList_store_blk {ops : Array Oper} {rest : List Oper} {o : Oper} {a : Act} {Q : Exit → Act → World → Prop} (hgd : o.guard = none) (ty : TypeId) (x y : Operand) (ho : o.op = .store ty x y)
    (g : Nat) (cs : List Value) (hx : a.eval x = .pointer (some ⟨g, 0, none⟩)) (hy : a.eval y = .agg cs.toArray)
    (t : TypeId) (old : List Value) (hg : Blk w g t old) (hi : (P.info? ty).map (·.size) = some cs.length)
    (hold : old.length = cs.length) (h1 : ∀ v ∈ cs, v.oneCell' = true)
    (h : ∀ w', Blk w' g t cs → Kept [g] w w' → w'.heap.size = w.heap.size → wpList P ops Q rest (a.put o.dst undef) w') : wpList P ops Q (o :: rest) a w :=
  wpList_store_row hgd ty x y ho g cs.toArray hx hy t old.toArray hg (by simpa using hi) (by simpa using hold) (all_oneCell_toArray h1)
    (h _ (setRow_heap w g _ _ t _ hg) ⟨rfl, rfl, rfl, by simp, fun k _ hk => setRow_other w g k _ (by simpa using hk)⟩ (by simp))
/-- All of it loaded. -/
theorem wpList_load_blk {ops : Array Oper} {rest : List Oper} {o : Oper} {a : Act} {Q : Exit → Act → World → Prop} (hgd : o.guard = none) (ty : TypeId) (x : Operand) (ho : o.op = .load ty x)
    (g : Nat) (hx : a.eval x = .pointer (some ⟨g, 0, none⟩)) (t : TypeId) (cs : List Value) (d : TypeDesc) (hg : Blk w g t cs)
    (hu : P.underlying ty = some d) (hd : d.isRow = true) (hi : (P.info? ty).map (·.size) = some cs.length)
    (h : wpList P ops Q rest (a.put o.dst (.agg cs.toArray)) w) : wpList P ops Q (o :: rest) a w :=
  wpList_load_mid hgd ty x ho g 0 hx cs d (fun j v hv => by rw [Nat.zero_add, hg.cell]; exact hv) hu hd hi h
/-- A piece of it loaded. -/
theorem wpList_load_part {ops : Array Oper} {rest : List Oper} {o : Oper} {a : Act} {Q : Exit → Act → World → Prop} (hgd : o.guard = none) (ty : TypeId) (x : Operand) (ho : o.op = .load ty x)
    (g off : Nat) (hx : a.eval x = .pointer (some ⟨g, off, none⟩)) (t : TypeId) (cs ps : List Value) (d : TypeDesc) (hg : Blk w g t cs) (hp : (cs.drop off).take ps.length = ps)
    (hu : P.underlying ty = some d) (hd : d.isRow = true) (hi : (P.info? ty).map (·.size) = some ps.length)
    (h : wpList P ops Q rest (a.put o.dst (.agg ps.toArray)) w) : wpList P ops Q (o :: rest) a w :=
  wpList_load_mid hgd ty x ho g off hx ps d (fun j v hv => by
    rw [hg.cell]
    have h1 := congrArg (fun l : List Value => l[j]?) hp
    have hj := (List.getElem?_eq_some_iff.1 hv).1
    simp only [List.getElem?_take, List.getElem?_drop] at h1
    rw [if_pos hj] at h1
    rw [h1, hv]) hu hd hi h
/-- A result that lies in a variable. -/
theorem results_blk {fn : Func} {p : Tmp} {ty : TypeId} (h : fn.results = #[.cell p ty]) (tmps : Array Value) (g : Nat) (t : TypeId) (cs : List Value) (d : TypeDesc)
    (hp : tmps.getD p undef = .pointer (some ⟨g, 0, none⟩)) (hg : Blk w g t cs)
    (hu : P.underlying ty = some d) (hd : d.isRow = true) (hi : (P.info? ty).map (·.size) = some cs.length) :
    (results fn tmps).run P w = .ok (.agg cs.toArray) w :=
  results_cell_row h tmps w g t cs.toArray (0, 0) d hp hg hu (by cases d <;> simp_all [TypeDesc.isRow]) (by simpa using hi)
/-- An array that is cut: from a place on; up to a place. -/
theorem run_cut_from (t e : TypeId) (n g off : Nat) (k : IntKind) (l : Nat) (z : Int) (hu : P.underlying t = some (.array n e)) (hs : (P.info? e).map (·.size) = some 1) (hz : z = (l : Int)) (hl : l < n) (W : World) :
    (Instr.sliceAt t (.pointer (some ⟨g, off, none⟩)) (some (.int k z)) none none).run P W = .ok (.slice (some ⟨g, off + l, none⟩) (n - l) (n - l)) W := by
  subst hz
  cases hq : P.info? e with
  | none => simp [hq] at hs
  | some i =>
    have hi : i.size = 1 := by simpa [hq] using hs
    simp only [Instr.sliceAt, Instr.sureAddr, Sem.run_bind, run_underlying hu, Result.andThen_ok, Sem.run_pure]
    simp [Instr.sliceBounds, run_sliceBound, sizeOf, typeInfo, hq, hi, Nat.le_of_lt hl, show n ≠ l by omega, Addr.add_mid]
theorem run_cut_to (t e : TypeId) (n g off : Nat) (k : IntKind) (h : Nat) (z : Int) (hu : P.underlying t = some (.array n e)) (hs : (P.info? e).map (·.size) = some 1) (hz : z = (h : Int)) (hh : h ≤ n) (hn : 0 < n) (W : World) :
    (Instr.sliceAt t (.pointer (some ⟨g, off, none⟩)) none (some (.int k z)) none).run P W = .ok (.slice (some ⟨g, off, none⟩) h n) W := by
  subst hz
  cases hq : P.info? e with
  | none => simp [hq] at hs
  | some i =>
    have hi : i.size = 1 := by simpa [hq] using hs
    simp only [Instr.sliceAt, Instr.sureAddr, Sem.run_bind, run_underlying hu, Result.andThen_ok, Sem.run_pure]
    simp [Instr.sliceBounds, run_sliceBound, sizeOf, typeInfo, hq, hi, hh, show n ≠ 0 by omega, Addr.add_mid]
end
end Go.Proofs.YtibcjbelcplpjaaDoor
/-
  Strings in walks: their bytes as a list, []byte(s), append of a string's bytes, a range over a string. Nothing of the program here.
-/
namespace Go.Proofs.YtibcjbelcplpjaaDoor
open Go.RowKit
set_option linter.unusedVariables false

/-- A string's bytes. -/
def strL (s : ByteArray) : List UInt8 := s.data.toList
theorem strL_length (s : ByteArray) : (strL s).length = s.size := by simp [strL]
theorem strL_get (s : ByteArray) (k : Nat) (h : k < s.size) : (strL s)[k]? = some (s[k]'h) := by
  unfold strL
  rw [Array.getElem?_toList]
  exact Array.getElem?_eq_getElem _

section
variable {P : Program} {w : World}
theorem RdB.of_row (s : ByteArray) (cap : Nat) (e : TypeId) (z : Array Value) (fr : Nat × Nat) (hc : s.size ≤ cap) (hm : cap ≤ maxLen) :
    RdB (w.alloc (.cells (s.data.map (fun b => Value.int .u8 b.toNat) ++ z) e fr)) (some ⟨w.heap.size, 0, none⟩) s.size cap (strL s) := by
  refine ⟨strL_length s, hc, hm, fun hn => ⟨w.heap.size, 0, rfl, fun j hj => ?_⟩⟩
  rw [cell_of_row _ _ _ _ _ _ (heap_alloc_new w _)]
  rw [strL_length] at hj
  have hj2 : j < s.data.size := hj
  rw [Nat.zero_add, Array.getElem?_append_left (by simpa using hj2), Array.getElem?_map, Array.getElem?_eq_getElem hj2]
  simp [strL, bcell]
theorem wpList_conv_bytes {ops : Array Oper} {rest : List Oper} {o : Oper} {a : Act} {Q : Exit → Act → World → Prop} (hgd : o.guard = none) (src dst : TypeId) (x : Operand) (ho : o.op = .convert src dst x)
    (e : TypeId) (s : ByteArray) (hx : a.eval x = .string s) (hs : P.underlying src = some .string) (hd : P.underlying dst = some (.slice e)) (he : P.underlying e = some (.int .u8)) (hm : s.size ≤ maxLen)
    (h : ∀ c w', RdB w' (some ⟨w.heap.size, 0, none⟩) s.size c (strL s) → Kept [] w w' → w'.heap.size = w.heap.size + 1 → wpList P ops Q rest (a.put o.dst (.slice (some ⟨w.heap.size, 0, none⟩) s.size c)) w') : wpList P ops Q (o :: rest) a w := by
  refine wpList_plain hgd fun K hK => ?_
  have hrun := run_bytes_of_string (P := P) w src dst e s hs hd he
  unfold Oper.wp execOp
  simp only [ho, hx, Sem.run_bind, Sem.run_pure, Result.andThen_ok, hrun]
  refine hK _ _ (h _ _ ?_ ?_ ?_)
  · exact RdB.of_row (w := w.drew) s _ e _ _ (grownCap_ge _ _ _ _) (grownCap_le_maxLen _ _ _ _ hm)
  · exact ((Kept.refl [] w).drew).alloc _
  · simp
/-- append(nil, s...) -/
theorem wpList_append_nil_str {ops : Array Oper} {rest : List Oper} {o : Oper} {a : Act} {Q : Exit → Act → World → Prop} (hgd : o.guard = none) (x y : Operand) (t u : TypeId)
    (ho : o.op = .call { callee := .builtin .append, args := #[x, y], argTypes := #[t, u] })
    (e : TypeId) (i : TypeInfo) (ht : P.underlying t = some (.slice e)) (hu : P.underlying u = some .string) (hi : P.info? e = some i) (hz : i.zero = some (.int .u8 0)) (hby : i.bytes = 1)
    (hx : a.eval x = .slice none 0 0) (s : ByteArray) (hy : a.eval y = .string s) (h0 : 0 < s.size) (hm : s.size ≤ 1000000)
    (h : ∀ c w', OwB e w' (.slice (some ⟨w.heap.size, 0, none⟩) s.size c) (strL s) → Kept [] w w' → w'.heap.size = w.heap.size + 1 → wpList P ops Q rest (a.put o.dst (.slice (some ⟨w.heap.size, 0, none⟩) s.size c)) w') : wpList P ops Q (o :: rest) a w := by
  refine wpList_plain hgd fun K hK => ?_
  have hrun := run_append_nil_string (P := P) (w := w) t u o.type e i _ ht hu hi hz s h0 (by omega) (by rw [hby]; omega)
  have hc1 := grownCap_ge w s.size 0 e
  have hc2 := grownCap_le_maxLen w s.size 0 e (by simp only [maxLen]; omega)
  unfold Oper.wp execOp
  simp only [ho, resolve, invoke, builtin, Sem.run_bind, Sem.run_pure, Result.andThen_ok, List.map_toArray, List.map_cons, List.map_nil, hx, hy, hrun]
  refine hK _ _ (h _ _ ?_ ?_ ?_)
  · refine ⟨by rw [bvs_length, Nat.mul_one], .inr ⟨w.heap.size, _, _, ?_, Nat.zero_le _, heap_alloc_new w.drew _, ?_, hc2, ?_, ?_⟩⟩
    · rw [strL_length]
    · rw [strL_length]; exact hc1
    · simp [Builtin.zeroCells, Value.cells]
      have : s.data.size = s.size := rfl
      omega
    · rw [strL_length, Nat.mul_one, Array.toList_append, List.take_append_of_le_length (by simp), List.take_of_length_le (by simp)]
      simp [bvs, strL]
      intro b _
      rfl
  · exact ((Kept.refl [] w).drew).alloc _
  · simp
end
end Go.Proofs.YtibcjbelcplpjaaDoor
/-
  Strings in walks, going on: a string cut from a place on, concatenation, a string of a byte slice. Nothing of the program here.
-/
namespace Go.Proofs.YtibcjbelcplpjaaDoor
open Go.RowKit
set_option linter.unusedVariables false

theorem strL_extract (s : ByteArray) (k : Nat) : strL (s.extract k s.size) = (strL s).drop k := by
  unfold strL
  rw [ByteArray.data_extract]
  have : s.size = s.data.size := rfl
  rw [this]
  simp only [Array.toList_extract, List.extract]
  exact List.take_of_length_le (by simp)
theorem str_from {P : Program} {t : TypeId} (s : ByteArray) (k : Nat) (hk : k ≤ s.size) (h : P.underlying t = some .string) : ∃ u : ByteArray, (∀ v, (Instr.slice t (.string s) (some (.int .i64 (k : Int))) none none).run P v = .ok (.string u) v) ∧ strL u = (strL s).drop k ∧ u.size = s.size - k := by
  refine ⟨s.extract k s.size, fun v => ?_, strL_extract s k, ?_⟩
  · rw [run_slice_string_from_if v t s .i64 _ h, if_pos ⟨by omega, by omega⟩]
    rfl
  · have := congrArg List.length (strL_extract s k)
    rw [strL_length, List.length_drop, strL_length] at this
    exact this
/-- string(b), whatever the slice. -/
theorem run_str_rdb {P : Program} {w : World} (src dst e : TypeId) {A : Option Addr} {n c : Nat} {bs : List UInt8} (hr : RdB w A n c bs) (hs : P.underlying src = some (.slice e)) (he : P.underlying e = some (.int .u8)) (hd : P.underlying dst = some .string) :
    (convert src dst (.slice A n c)).run P w = .ok (.string ⟨bs.toArray⟩) w := by
  have hl := hr.len
  cases A with
  | none =>
    have h0 : bs = [] := by
      rcases Nat.eq_zero_or_pos n with h0 | h0
      · subst h0; exact List.length_eq_zero_iff.1 hl
      · obtain ⟨b, off, e, _⟩ := hr.cells h0
        cases e
    subst h0
    rw [run_convert_bytes_string w src dst e none n c hs he hd]
    rfl
  | some a =>
    subst hl
    refine run_convert_bytes_back w src dst e a c bs hs he hd fun j hj => ?_
    have := hr.news j (bcell bs[j]) (by rw [bvs_get bs j hj])
    exact this
end Go.Proofs.YtibcjbelcplpjaaDoor
/-
  Strings in walks, going on: one behind the other. Nothing of the program here.
-/
namespace Go.Proofs.YtibcjbelcplpjaaDoor
open Go.RowKit
set_option linter.unusedVariables false

theorem str_add (a b c : ByteArray) (h : strL c = strL a ++ strL b) : a ++ b = c := by
  apply ByteArray.ext
  rw [ByteArray.data_append, ← Array.toList_inj, Array.toList_append]
  exact h.symm
theorem str_mk (l : List UInt8) : ∃ s : ByteArray, strL s = l := ⟨⟨l.toArray⟩, rfl⟩
theorem str_of (s : ByteArray) (l : List UInt8) (h : strL s = l) : (⟨l.toArray⟩ : ByteArray) = s := by subst h; rfl
theorem add_rule {P : Program} (a b c : ByteArray) (h : strL c = strL a ++ strL b) (ha : a.size ≤ 2000000) (hb : b.size ≤ 2000000) (v : World) : (Op.stringOp .add a b).run P v = .ok (.string c) v := by
  rw [run_string_add_sum v a b (by omega), str_add a b c h]
section
variable {P : Program} {w : World}
/-- string(b), as an operation. -/
theorem wpList_to_str {ops : Array Oper} {rest : List Oper} {o : Oper} {a : Act} {Q : Exit → Act → World → Prop} (hgd : o.guard = none) (src dst e : TypeId) (x : Operand) (ho : o.op = .convert src dst x)
    (A : Option Addr) (n c : Nat) (bs : List UInt8) (hx : a.eval x = .slice A n c) (hr : RdB w A n c bs) (hs : P.underlying src = some (.slice e)) (he : P.underlying e = some (.int .u8)) (hd : P.underlying dst = some .string)
    (h : wpList P ops Q rest (a.put o.dst (.string ⟨bs.toArray⟩)) w) : wpList P ops Q (o :: rest) a w := by
  refine wpList_plain hgd fun K hK => ?_
  have hrun := run_str_rdb (P := P) (w := w) src dst e hr hs he hd
  unfold Oper.wp execOp
  simp only [ho, hx, Sem.run_bind, Sem.run_pure, Result.andThen_ok, hrun]
  exact hK _ _ h
end
theorem strL_mk (l : List UInt8) : strL ⟨l.toArray⟩ = l := rfl
theorem size_mk (l : List UInt8) : (⟨l.toArray⟩ : ByteArray).size = l.length := by simp [ByteArray.size]
end Go.Proofs.YtibcjbelcplpjaaDoor
/-
  The byte type's row, and bytes that are told anew. No statement of the seed is proved here.
-/
namespace Go.Proofs.YtibcjbelcplpjaaDoor
open Go.RowKit

theorem u8info : (Tryd.prog.info? 5).map (fun i => (i.zero, i.size, i.bytes)) = some (some (.int .u8 0), 1, 1) := by kernel_rfl
/-- A new byte slice that holds bs. -/
def CloneRet (bs : List UInt8) (w : World) (e : Ending) (w' : World) : Prop :=
  ∃ v, e = .returned v ∧ OwB 5 w' v bs ∧ Kept [] w w' ∧ ∀ g, v.ownBlock = some g → w.heap.size ≤ g
end Go.Proofs.YtibcjbelcplpjaaDoor
/-
  Helper words on memory, going on: slices whose elements are one cell each, as lists of cells ('RdV'), rows of the call's own ('OwV'), append. No statement of the seed is proved here.
-/
namespace Go.Proofs.YtibcjbelcplpjaaDoor
open Go.RowKit

/-- The slice '.slice A n c' reads as the cells vs. -/
structure RdV (w : World) (A : Option Addr) (n c : Nat) (vs : List Value) : Prop where
  len : vs.length = n
  cap : n ≤ c
  most : c ≤ maxLen
  cells : 0 < n → ∃ b off, A = some ⟨b, off, none⟩ ∧ ∀ j, (h : j < vs.length) → w.cell? ⟨b, off + j, none⟩ = some vs[j]
section
variable {w w' : World} {A : Option Addr} {n c : Nat} {vs : List Value} {S : List Nat}
theorem RdV.nil (w : World) : RdV w none 0 0 [] := ⟨rfl, Nat.le_refl _, by simp [maxLen], fun h => absurd h (by omega)⟩
theorem RdV.at_ (h : RdV w A n c vs) (hn : 0 < n) : ∃ b off, A = some ⟨b, off, none⟩ ∧ b < w.heap.size ∧ ∀ j, (hj : j < vs.length) → w.cell? ⟨b, off + j, none⟩ = some vs[j] := by
  obtain ⟨b, off, e, hc⟩ := h.cells hn
  have hl := h.len
  have h0 := hc 0 (by omega)
  exact ⟨b, off, e, World.block_lt_of_cell? w _ h0, hc⟩
theorem RdV.keep (h : RdV w A n c vs) (hk : ∀ b off, A = some ⟨b, off, none⟩ → b < w.heap.size → w'.heap[b]? = w.heap[b]?) : RdV w' A n c vs :=
  ⟨h.len, h.cap, h.most, fun hn => by
    obtain ⟨b, off, e, hb, hc⟩ := h.at_ hn
    exact ⟨b, off, e, fun j hj => (World.cell?_of_block (w := w) (hk b off e hb)).trans (hc j hj)⟩⟩
theorem RdV.kept (h : RdV w A n c vs) (hk : Kept S w w') (hS : Off A S) : RdV w' A n c vs :=
  h.keep fun b _ e hb => hk.block b hb (hS _ e)
theorem RdV.kept0 (h : RdV w A n c vs) (hk : Kept [] w w') : RdV w' A n c vs := h.kept hk (fun _ _ => by simp)
theorem RdV.keptNew (h : RdV w A n c vs) (hk : Kept S w w') (hS : ∀ k, k ∈ S → w.heap.size ≤ k) : RdV w' A n c vs :=
  h.keep fun b _ _ hb => hk.block b hb (fun hm => by have := hS b hm; omega)
theorem RdV.one (w : World) (e : TypeId) (v : Value) : RdV (w.alloc (.cells #[v] e)) (some ⟨w.heap.size, 0, none⟩) 1 1 [v] := by
  refine ⟨rfl, Nat.le_refl _, by simp [maxLen], fun _ => ⟨w.heap.size, 0, rfl, fun j hj => ?_⟩⟩
  have hj0 : j = 0 := by simpa using hj
  subst hj0
  rw [cell_of_row _ _ _ _ _ _ (heap_alloc_new w _)]
  rfl
theorem RdV.drop (h : RdV w A n c vs) (k : Nat) (hk : k ≤ n) : RdV w (if c = k then A else A.map (·.add k)) (n - k) (c - k) (vs.drop k) := by
  have hl := h.len
  have hc := h.cap
  have hm := h.most
  refine ⟨by rw [List.length_drop, hl], by omega, by omega, fun hp => ?_⟩
  obtain ⟨b, off, rfl, hcell⟩ := h.cells (by omega)
  rw [if_neg (by omega)]
  have h2 : (⟨b, off, none⟩ : Addr).add k = ⟨b, off + k, none⟩ := by unfold Addr.add; split <;> simp_all
  refine ⟨b, off + k, by simp [h2], fun j hj => ?_⟩
  rw [List.length_drop] at hj
  have := hcell (k + j) (by omega)
  rw [List.getElem_drop, Nat.add_assoc]
  exact this
theorem RdV.take (h : RdV w A n c vs) (k : Nat) (hk : k ≤ n) : RdV w A k c (vs.take k) := by
  have hl := h.len
  have hc := h.cap
  refine ⟨by rw [List.length_take]; omega, by omega, h.most, fun hp => ?_⟩
  obtain ⟨b, off, e, hcell⟩ := h.cells (by omega)
  refine ⟨b, off, e, fun j hj => ?_⟩
  rw [List.length_take] at hj
  rw [List.getElem_take]
  exact hcell j (by omega)
theorem RdV.news {a : Addr} (h : RdV w (some a) n c vs) : ∀ j u, vs[j]? = some u → w.cell? (a.add j) = some u := by
  intro j u hu
  obtain ⟨hj, rfl⟩ := List.getElem?_eq_some_iff.1 hu
  have hl := h.len
  obtain ⟨b, off, e, _, hc⟩ := h.at_ (by omega)
  injection e with e
  subst e
  have := hc j hj
  simp only [Addr.add]
  split
  · rename_i h0
    subst h0
    exact this
  · exact this
end

/-- A slice value that owns its row, which begins at a block's head: one that can be appended to. -/
def OwV (e : TypeId) (w : World) (v : Value) (vs : List Value) : Prop := w.ownsRow 0 e 1 v vs.length vs
section
variable {e : TypeId} {w w' : World} {v : Value} {vs : List Value} {S : List Nat}
theorem OwV.nil (e : TypeId) (w : World) : OwV e w (.slice none 0 0) [] := World.ownsRow_nil _ _ _ _
theorem OwV.empty (e : TypeId) (w : World) : OwV e (w.alloc (.cells #[] e)) (.slice (some ⟨w.heap.size, 0, none⟩) 0 0) [] :=
  ⟨rfl, .inr ⟨w.heap.size, 0, #[], rfl, Nat.zero_le _, heap_alloc_new w _, Nat.le_refl _, by simp [maxLen], rfl, rfl⟩⟩
theorem OwV.form (h : OwV e w v vs) : ∃ A n c, v = .slice A n c ∧ RdV w A n c vs ∧ (∀ g, v.ownBlock = some g → g < w.heap.size) := by
  rcases h.2 with ⟨rfl, hn⟩ | ⟨g, cap, cur, rfl, _, hg, hnc, hcm, hcs, htake⟩
  · have : vs = [] := List.eq_nil_of_length_eq_zero hn
    subst this
    exact ⟨none, 0, 0, rfl, RdV.nil w, by simp [Value.ownBlock]⟩
  · have hlt : g < w.heap.size := (Array.getElem?_eq_some_iff.1 hg).1
    refine ⟨some ⟨g, 0, none⟩, _, cap, rfl, ⟨rfl, hnc, hcm, fun _ => ⟨g, 0, rfl, fun j hj => ?_⟩⟩, by simp [Value.ownBlock]; omega⟩
    rw [Nat.zero_add]
    rw [cell_of_row w g j cur e (0, 0) hg]
    have := congrArg (fun l : List Value => l[j]?) htake
    simp only [List.getElem?_take] at this
    rw [if_pos (by omega), List.getElem?_eq_getElem hj] at this
    simpa using this
theorem OwV.rd {A : Option Addr} {n c : Nat} (h : OwV e w (.slice A n c) vs) : RdV w A n c vs := by
  obtain ⟨A', m, d, e, hr, _⟩ := h.form
  injection e with e1 e2 e3
  subst e1 e2 e3
  exact hr
theorem OwV.keep (h : OwV e w v vs) (hk : ∀ g, v.ownBlock = some g → g < w.heap.size → w'.heap[g]? = w.heap[g]?) : OwV e w' v vs := by
  refine ⟨h.1, ?_⟩
  rcases h.2 with hn | ⟨g, cap, cur, rfl, hb, hg, rest⟩
  · exact .inl hn
  · exact .inr ⟨g, cap, cur, rfl, hb, (hk g rfl (Array.getElem?_eq_some_iff.1 hg).1).trans hg, rest⟩
theorem OwV.kept (h : OwV e w v vs) (hk : Kept S w w') (hS : ∀ g, v.ownBlock = some g → g ∉ S) : OwV e w' v vs := h.keep fun g hg hl => hk.block g hl (hS g hg)
theorem OwV.kept0 (h : OwV e w v vs) (hk : Kept [] w w') : OwV e w' v vs := h.kept hk (fun _ _ => by simp)
theorem OwV.alloc (h : OwV e w v vs) (o : Obj) : OwV e (w.alloc o) v vs := h.kept0 ((Kept.refl [] w).alloc o)
theorem OwV.drew (h : OwV e w v vs) : OwV e w.drew v vs := h.kept0 ((Kept.refl [] w).drew)
end

section
variable {P : Program} {w : World}
/-- append(row, cells...), whatever the source is (nil, empty, or not). -/
theorem run_append_vals (t ty e : TypeId) (i : TypeInfo) (z : Value) (bytes : Nat) (ht : P.underlying t = some (.slice e)) (hi : P.info? e = some i) (hz : i.zero = some z)
    (hsize : i.size = 1) (hby : i.bytes = bytes) (hzs : z.cells.size = 1) {v : Value} {xs : List Value} (hown : OwV e w v xs)
    {A : Option Addr} {m c : Nat} {news : List Value} (hr : RdV w A m c news) (h1 : ∀ u ∈ news, u.oneCell' = true) (h63 : xs.length + m ≤ maxLen) (hbytes : (xs.length + m) * bytes ≤ 140737488355328) :
    ∃ v' w', (Builtin.append_ #[t, t] ty #[v, .slice A m c]).run P w = .ok v' w' ∧ OwV e w' v' (xs ++ news) ∧ Kept v.ownBlock.toList w w' ∧ Moved w v v' := by
  rcases A with _ | a
  · have hm : m = 0 := by
      rcases Nat.eq_zero_or_pos m with h0 | h0
      · exact h0
      · obtain ⟨b, off, e, _⟩ := hr.cells h0
        cases e
    subst hm
    have hn : news = [] := List.eq_nil_of_length_eq_zero hr.len
    subst hn
    refine ⟨v, w, ?_, by simpa using hown, Kept.refl _ _, Moved.refl _ _⟩
    rcases hown.2 with ⟨rfl, _⟩ | ⟨g, cap, cur, rfl, _, _, hnc, _⟩
    · simp [Builtin.append_, run_underlying ht, sizeOf, typeInfo, hi, Builtin.lenOf, Builtin.firstCells]
    · simp [Builtin.append_, run_underlying ht, sizeOf, typeInfo, hi, Builtin.lenOf, Builtin.firstCells, hnc, storeCells]
  · obtain ⟨v', w', hrun, h2, h3, _, h5⟩ := run_append_own_at (P := P) w 0 t ty e i z 1 bytes ht hi hz hsize hby hzs (by omega) v xs.length xs hown a m c news
      (by rw [hr.len]; omega) hr.news h1 h63 hbytes (Nat.zero_le _)
    refine ⟨v', w', hrun, ?_, (Kept.refl _ _).grown h3 (by intro k hk; simp [hk]), ?_⟩
    · have := hr.len
      unfold OwV
      rw [List.length_append, this]
      exact h2
    · intro g hg
      rcases h5 with h5 | h5
      · exact .inl (by rw [← h5]; exact hg)
      · rw [h5] at hg
        injection hg with hg
        exact .inr (by omega)
theorem wpList_append_vals {ops : Array Oper} {rest : List Oper} {o : Oper} {a : Act} {Q : Exit → Act → World → Prop} (hgd : o.guard = none) (s x : Operand) (t : TypeId)
    (ho : o.op = .call { callee := .builtin .append, args := #[s, x], argTypes := #[t, t] })
    (e : TypeId) (i : TypeInfo) (z : Value) (bytes : Nat) (ht : P.underlying t = some (.slice e)) (hi : P.info? e = some i) (hz : i.zero = some z)
    (hsize : i.size = 1) (hby : i.bytes = bytes) (hzs : z.cells.size = 1)
    (v : Value) (xs : List Value) (hs : a.eval s = v) (hown : OwV e w v xs)
    (A : Option Addr) (m c : Nat) (news : List Value) (hx : a.eval x = .slice A m c) (hr : RdV w A m c news) (h1 : ∀ u ∈ news, u.oneCell' = true)
    (h63 : xs.length + m ≤ maxLen) (hbytes : (xs.length + m) * bytes ≤ 140737488355328)
    (h : ∀ v' w', OwV e w' v' (xs ++ news) → Kept v.ownBlock.toList w w' → Moved w v v' → wpList P ops Q rest (a.put o.dst v') w') : wpList P ops Q (o :: rest) a w := by
  refine wpList_plain hgd fun K hK => ?_
  obtain ⟨v', w', hrun, h2, h3, h4⟩ := run_append_vals (P := P) (w := w) t o.type e i z bytes ht hi hz hsize hby hzs hown hr h1 h63 hbytes
  unfold Oper.wp execOp
  simp only [ho, resolve, invoke, builtin, Sem.run_bind, Sem.run_pure, Result.andThen_ok, List.map_toArray, List.map_cons, List.map_nil, hs, hx, hrun]
  exact hK _ _ (h v' w' h2 h3 h4)
theorem step_append_vals {ops : Array Oper} {o : Oper} {a : Act} {K : Act → World → Prop} {Q : Exit → Act → World → Prop} {E : Prop} (hgd : o.guard = none) (s x : Operand) (t : TypeId)
    (ho : o.op = .call { callee := .builtin .append, args := #[s, x], argTypes := #[t, t] })
    (e : TypeId) (i : TypeInfo) (z : Value) (bytes : Nat) (ht : P.underlying t = some (.slice e)) (hi : P.info? e = some i) (hz : i.zero = some z)
    (hsize : i.size = 1) (hby : i.bytes = bytes) (hzs : z.cells.size = 1)
    (v : Value) (xs : List Value) (hs : a.eval s = v) (hown : OwV e w v xs)
    (A : Option Addr) (m c : Nat) (news : List Value) (hx : a.eval x = .slice A m c) (hr : RdV w A m c news) (h1 : ∀ u ∈ news, u.oneCell' = true)
    (h63 : xs.length + m ≤ maxLen) (hbytes : (xs.length + m) * bytes ≤ 140737488355328)
    (h : ∀ v' w', OwV e w' v' (xs ++ news) → Kept v.ownBlock.toList w w' → Moved w v v' → K (a.put o.dst v') w') :
    if Region.wanted o (yielded ops a.tmps) = true then Oper.wp P o a w K Q else E := by
  have hw : Region.wanted o (yielded ops a.tmps) = true := by simp [Region.wanted, hgd]
  rw [if_pos hw]
  obtain ⟨v', w', hrun, h2, h3, h4⟩ := run_append_vals (P := P) (w := w) t o.type e i z bytes ht hi hz hsize hby hzs hown hr h1 h63 hbytes
  unfold Oper.wp execOp
  simp only [ho, resolve, invoke, builtin, Sem.run_bind, Sem.run_pure, Result.andThen_ok, List.map_toArray, List.map_cons, List.map_nil, hs, hx, hrun]
  exact h v' w' h2 h3 h4
/-- What an append leaves, seen from an elder world behind which the row was made. -/
theorem app_new {wr W w5 : World} {v v5 : Value} (hK : Kept [] wr W) (hv : ∀ g, v.ownBlock = some g → wr.heap.size ≤ g) (hk : Kept v.ownBlock.toList W w5) (hm : Moved W v v5) :
    Kept [] wr w5 ∧ ∀ g, v5.ownBlock = some g → wr.heap.size ≤ g := by
  refine ⟨hK.trans hk (fun i hi => .inr (hv i (by simpa using hi))), fun g hg => ?_⟩
  rcases hm g hg with h | h
  · exact hv g h
  · exact Nat.le_trans hK.size h
end
theorem RdV.one_at {w : World} {g : Nat} {v : Value} {e : TypeId} {fr : Nat × Nat} (h : w.heap[g]? = some (.cells #[v] e fr)) : RdV w (some ⟨g, 0, none⟩) 1 1 [v] := by
  refine ⟨rfl, Nat.le_refl _, by simp [maxLen], fun _ => ⟨g, 0, rfl, fun j hj => ?_⟩⟩
  have hj0 : j = 0 := by simpa using hj
  subst hj0
  rw [cell_of_row _ _ _ _ _ _ h]
  rfl
theorem OwV.empty_at {w : World} {g : Nat} {e : TypeId} (h : w.heap[g]? = some (.cells #[] e (0, 0))) : OwV e w (.slice (some ⟨g, 0, none⟩) 0 0) [] :=
  ⟨rfl, .inr ⟨g, 0, #[], rfl, Nat.zero_le _, h, Nat.le_refl _, by simp [maxLen], rfl, rfl⟩⟩
end Go.Proofs.YtibcjbelcplpjaaDoor
/-
  Plain mathematics of layer 2: words of 32 bits, a block's words, its rounds, whole blocks, what ends a text. Nothing of the program here.
-/
namespace Go.Proofs.YtibcjbelcplpjaaDoor

abbrev W32 := BitVec 32
/-- A word as the number that stands for it. -/
@[irreducible] def wv (x : W32) : Int := (x.toNat : Int)
theorem wv_eq (x : W32) : wv x = (x.toNat : Int) := by unfold wv; rfl
theorem wv_nonneg (x : W32) : 0 ≤ wv x := by rw [wv_eq]; omega
theorem wv_lt (x : W32) : wv x < 4294967296 := by rw [wv_eq]; have := x.isLt; omega
theorem wv_inj {x y : W32} (h : wv x = wv y) : x = y := by
  rw [wv_eq, wv_eq] at h
  exact BitVec.eq_of_toNat_eq (by omega)
theorem wv_ofNat (n : Nat) (h : n < 4294967296) : wv (BitVec.ofNat 32 n) = (n : Int) := by
  rw [wv_eq, BitVec.toNat_ofNat]; omega
theorem wv_add (x y : W32) : (wv x + wv y) % 4294967296 = wv (x + y) := by
  rw [wv_eq, wv_eq, wv_eq, BitVec.toNat_add]; omega

def rotr (x : W32) (n : Nat) : W32 := (x >>> n) ||| (x <<< (32 - n))
def bS0 (x : W32) : W32 := rotr x 2 ^^^ rotr x 13 ^^^ rotr x 22
def bS1 (x : W32) : W32 := rotr x 6 ^^^ rotr x 11 ^^^ rotr x 25
def sS0 (x : W32) : W32 := rotr x 7 ^^^ rotr x 18 ^^^ (x >>> 3)
def sS1 (x : W32) : W32 := rotr x 17 ^^^ rotr x 19 ^^^ (x >>> 10)
def chW (e f g : W32) : W32 := (e &&& f) ^^^ (~~~e &&& g)
def majW (a b c : W32) : W32 := (a &&& b) ^^^ (a &&& c) ^^^ (b &&& c)

/-- The same, as the document's own answer says them. -/
theorem chW_or (e f g : W32) : (e &&& f) ||| (~~~e &&& g) = chW e f g := by
  unfold chW
  apply BitVec.eq_of_getLsbD_eq
  intro i hi
  simp only [BitVec.getLsbD_or, BitVec.getLsbD_and, BitVec.getLsbD_xor, BitVec.getLsbD_not, hi, decide_true, Bool.true_and]
  cases e.getLsbD i <;> cases f.getLsbD i <;> cases g.getLsbD i <;> rfl
theorem majW_or (a b c : W32) : (a &&& b) ||| (a &&& c) ||| (b &&& c) = majW a b c := by
  unfold majW
  apply BitVec.eq_of_getLsbD_eq
  intro i hi
  simp only [BitVec.getLsbD_or, BitVec.getLsbD_and, BitVec.getLsbD_xor]
  cases a.getLsbD i <;> cases b.getLsbD i <;> cases c.getLsbD i <;> rfl
theorem rotr_lost (x : W32) (n : Nat) (h1 : 1 ≤ n) (h : n < 32) : rotr x n ^^^ (x <<< (32 - n)) = x >>> n := by
  unfold rotr
  apply BitVec.eq_of_getLsbD_eq
  intro i hi
  simp only [BitVec.getLsbD_xor, BitVec.getLsbD_or, BitVec.getLsbD_ushiftRight, BitVec.getLsbD_shiftLeft, hi, decide_true, Bool.true_and]
  by_cases hk : i < 32 - n
  · simp [hk]
  · have : x.getLsbD (n + i) = false := BitVec.getLsbD_of_ge _ _ (by omega)
    simp [this]
def three (x : W32) (a b c : Nat) : W32 := 0 ^^^ rotr x a ^^^ rotr x b ^^^ rotr x c
theorem zero_xorW (x : W32) : 0 ^^^ x = x := BitVec.zero_xor
theorem three_S0 (x : W32) : three x 2 13 22 = bS0 x := by unfold three bS0; rw [zero_xorW]
theorem three_S1 (x : W32) : three x 6 11 25 = bS1 x := by unfold three bS1; rw [zero_xorW]
theorem two_s0 (x : W32) : three x 7 18 3 ^^^ (x <<< 29) = sS0 x := by
  unfold three sS0; rw [zero_xorW, BitVec.xor_assoc, rotr_lost x 3 (by omega) (by omega)]
theorem two_s1 (x : W32) : three x 17 19 10 ^^^ (x <<< 22) = sS1 x := by
  unfold three sS1; rw [zero_xorW, BitVec.xor_assoc, rotr_lost x 10 (by omega) (by omega)]

/-- The word that four bytes tell, the highest first. -/
def wd (bs : List UInt8) : W32 := BitVec.ofNat 32 (num (bs.take 4))
/-- A block's first words. -/
def first16 (b : List UInt8) : Nat → List W32
  | 0 => []
  | n + 1 => first16 b n ++ [wd (b.drop (4 * n))]
theorem first16_length (b : List UInt8) : ∀ n, (first16 b n).length = n
  | 0 => rfl
  | n + 1 => by simp [first16, first16_length b n]
/-- One word more, of those ahead of it. -/
def nextW (l : List W32) (n : Nat) : W32 := l.getD (n - 16) 0 + sS0 (l.getD (n - 15) 0) + l.getD (n - 7) 0 + sS1 (l.getD (n - 2) 0)
def wordsN (b : List UInt8) : Nat → List W32
  | 0 => first16 b 16
  | n + 1 => wordsN b n ++ [nextW (wordsN b n) (16 + n)]
theorem wordsN_length (b : List UInt8) : ∀ n, (wordsN b n).length = 16 + n
  | 0 => first16_length b 16
  | n + 1 => by simp [wordsN, wordsN_length b n]; omega
/-- A block's sixty-four words. -/
@[irreducible] def words64 (b : List UInt8) : List W32 := wordsN b 48
theorem words64_eq (b : List UInt8) : words64 b = wordsN b 48 := by unfold words64; rfl
theorem words64_length (b : List UInt8) : (words64 b).length = 64 := by rw [words64_eq]; exact wordsN_length b 48

/-- Eight words. -/
structure St where
  a : W32
  b : W32
  c : W32
  d : W32
  e : W32
  f : W32
  g : W32
  h : W32
def St.l (s : St) : List W32 := [s.a, s.b, s.c, s.d, s.e, s.f, s.g, s.h]
def ks : List W32 := [0x428a2f98, 0x71374491, 0xb5c0fbcf, 0xe9b5dba5, 0x3956c25b, 0x59f111f1, 0x923f82a4, 0xab1c5ed5, 0xd807aa98, 0x12835b01, 0x243185be, 0x550c7dc3, 0x72be5d74, 0x80deb1fe, 0x9bdc06a7, 0xc19bf174, 0xe49b69c1, 0xefbe4786, 0x0fc19dc6, 0x240ca1cc, 0x2de92c6f, 0x4a7484aa, 0x5cb0a9dc, 0x76f988da, 0x983e5152, 0xa831c66d, 0xb00327c8, 0xbf597fc7, 0xc6e00bf3, 0xd5a79147, 0x06ca6351, 0x14292967, 0x27b70a85, 0x2e1b2138, 0x4d2c6dfc, 0x53380d13, 0x650a7354, 0x766a0abb, 0x81c2c92e, 0x92722c85, 0xa2bfe8a1, 0xa81a664b, 0xc24b8b70, 0xc76c51a3, 0xd192e819, 0xd6990624, 0xf40e3585, 0x106aa070, 0x19a4c116, 0x1e376c08, 0x2748774c, 0x34b0bcb5, 0x391c0cb3, 0x4ed8aa4a, 0x5b9cca4f, 0x682e6ff3, 0x748f82ee, 0x78a5636f, 0x84c87814, 0x8cc70208, 0x90befffa, 0xa4506ceb, 0xbef9a3f7, 0xc67178f2]
def st0 : St := ⟨0x6a09e667, 0xbb67ae85, 0x3c6ef372, 0xa54ff53a, 0x510e527f, 0x9b05688c, 0x1f83d9ab, 0x5be0cd19⟩
theorem ks_length : ks.length = 64 := rfl
/-- One round, by a round's word and a block's. -/
def rndX (k w : W32) (s : St) : W32 := s.h + bS1 s.e + chW s.e s.f s.g + k + w
def rndY (s : St) : W32 := bS0 s.a + majW s.a s.b s.c
def rnd (k w : W32) (s : St) : St := ⟨rndX k w s + rndY s, s.a, s.b, s.c, s.d + rndX k w s, s.e, s.f, s.g⟩
/-- The first n rounds. -/
def rnds (ws : List W32) (s : St) : Nat → St
  | 0 => s
  | n + 1 => rnd (ks.getD n 0) (ws.getD n 0) (rnds ws s n)
def addSt (s t : St) : St := ⟨s.a + t.a, s.b + t.b, s.c + t.c, s.d + t.d, s.e + t.e, s.f + t.f, s.g + t.g, s.h + t.h⟩
/-- Eight words behind a block. -/
@[irreducible] def mixB (s : St) (b : List UInt8) : St := addSt s (rnds (words64 b) s 64)
theorem mixB_eq (s : St) (b : List UInt8) : mixB s b = addSt s (rnds (words64 b) s 64) := by unfold mixB; rfl

/-- Behind n whole blocks. -/
def blocks : Nat → St → List UInt8 → St
  | 0, s, _ => s
  | n + 1, s, l => blocks n (mixB s (l.take 64)) (l.drop 64)
/-- Behind all whole blocks of a text. -/
def run (s : St) (l : List UInt8) : St := blocks (l.length / 64) s l
theorem blocks_take : ∀ (n : Nat) (s : St) (l r : List UInt8), 64 * n ≤ l.length → blocks n s (l ++ r) = blocks n s l
  | 0, _, _, _, _ => rfl
  | n + 1, s, l, r, h => by
    rw [blocks, blocks, List.take_append_of_le_length (by omega), List.drop_append_of_le_length (by omega), blocks_take n _ _ r (by rw [List.length_drop]; omega)]
theorem blocks_snoc : ∀ (n : Nat) (s : St) (l : List UInt8), blocks (n + 1) s l = mixB (blocks n s l) ((l.drop (64 * n)).take 64)
  | 0, s, l => by simp [blocks]
  | n + 1, s, l => by
    rw [blocks, blocks_snoc n, List.drop_drop, blocks]
    rw [show 64 + 64 * n = 64 * (n + 1) by omega]
/-- Fewer bytes than a block needs change nothing. -/
theorem run_more (s : St) (l r : List UInt8) (h : l.length % 64 + r.length < 64) : run s (l ++ r) = run s l := by
  unfold run
  have e : (l ++ r).length / 64 = l.length / 64 := by rw [List.length_append]; omega
  rw [e, blocks_take _ _ _ _ (by omega)]
/-- As many as it needs make one block more. -/
theorem run_full (s : St) (l r : List UInt8) (h : l.length % 64 + r.length = 64) : run s (l ++ r) = mixB (run s l) (l.drop (64 * (l.length / 64)) ++ r) := by
  unfold run
  have e : (l ++ r).length / 64 = l.length / 64 + 1 := by rw [List.length_append]; omega
  rw [e, blocks_snoc, blocks_take _ _ _ _ (by omega)]
  congr 1
  rw [List.drop_append_of_le_length (by omega)]
  exact List.take_of_length_le (by rw [List.length_append, List.length_drop]; omega)

/-- How many bytes stand behind a text of n bytes: the one that ends it, noughts, the length. -/
def fillN (n : Nat) : Nat := 64 - (n + 8) % 64
def tail8 (n : Nat) : List UInt8 := (128 :: List.replicate (fillN n - 1) 0) ++ be 8 (8 * n)
theorem fillN_pos (n : Nat) : 1 ≤ fillN n ∧ fillN n ≤ 64 := by unfold fillN; omega
theorem tail8_length (n : Nat) : (tail8 n).length = fillN n + 8 := by
  have := fillN_pos n
  simp [tail8, be_length]; omega
def padded (l : List UInt8) : List UInt8 := l ++ tail8 l.length
theorem padded_length (l : List UInt8) : (padded l).length % 64 = 0 := by
  have := fillN_pos l.length
  rw [padded, List.length_append, tail8_length]; unfold fillN; omega
/-- Eight words as bytes. -/
def stBytes (s : St) : List UInt8 := s.l.flatMap fun x => be 4 x.toNat
/-- The digest. -/
@[irreducible] def shaSum (l : List UInt8) : List UInt8 := stBytes (run st0 (padded l))
theorem stBytes_length (s : St) : (stBytes s).length = 32 := by simp [stBytes, St.l, be_length]
theorem shaSum_eq (l : List UInt8) : shaSum l = stBytes (run st0 (padded l)) := by unfold shaSum; rfl
theorem shaSum_length (l : List UInt8) : (shaSum l).length = 32 := by rw [shaSum_eq]; exact stBytes_length _
end Go.Proofs.YtibcjbelcplpjaaDoor
/-
  Helper words on words of 32 bits: the walk's own spellings of their operations, rows of them. No statement of the seed is proved here.
-/
namespace Go.Proofs.YtibcjbelcplpjaaDoor
open Go.RowKit
set_option linter.unusedVariables false

theorem wv_shr (x : W32) (n : Nat) : wv x / 2 ^ n = wv (x >>> n) := by
  rw [wv_eq, wv_eq, BitVec.toNat_ushiftRight, Nat.shiftRight_eq_div_pow]
  have : ((2 : Int) ^ n) = ((2 ^ n : Nat) : Int) := by simp
  rw [this]
  omega
theorem wv_shl (x : W32) (n : Nat) : wv x * 2 ^ n % 4294967296 = wv (x <<< n) := by
  rw [wv_eq, wv_eq, BitVec.toNat_shiftLeft, Nat.shiftLeft_eq]
  have : ((2 : Int) ^ n) = ((2 ^ n : Nat) : Int) := by simp
  rw [this]
  omega
theorem bits_orW (x y : W32) : bits .or .u32 (wv x) (wv y) = wv (x ||| y) := by
  rw [wv_eq, wv_eq, wv_eq, BitVec.toNat_or]; exact u32_or_nat _ _ (by have := x.isLt; omega) (by have := y.isLt; omega)
theorem bits_andW (x y : W32) : bits .and .u32 (wv x) (wv y) = wv (x &&& y) := by
  rw [wv_eq, wv_eq, wv_eq, BitVec.toNat_and]; exact u32_and_nat _ _ (by have := x.isLt; omega) (by have := y.isLt; omega)
theorem bits_xorW (x y : W32) : bits .xor .u32 (wv x) (wv y) = wv (x ^^^ y) := by
  rw [wv_eq, wv_eq, wv_eq, BitVec.toNat_xor]; exact u32_xor_nat _ _ (by have := x.isLt; omega) (by have := y.isLt; omega)

theorem word4 (a b c d : UInt8) : bits .or .u32 (bits .or .u32 (bits .or .u32 ((a.toNat : Int) * 16777216) ((b.toNat : Int) * 65536)) ((c.toNat : Int) * 256)) (d.toNat : Int) = wv (wd [a, b, c, d]) := by
  have ha := a.toNat_lt
  have hb := b.toNat_lt
  have hc := c.toNat_lt
  have hd := d.toNat_lt
  have e1 : ((a.toNat : Int) * 16777216) = ((a.toNat * 16777216 : Nat) : Int) := by omega
  have e2 : ((b.toNat : Int) * 65536) = ((b.toNat * 65536 : Nat) : Int) := by omega
  have e3 : ((c.toNat : Int) * 256) = ((c.toNat * 256 : Nat) : Int) := by omega
  rw [e1, e2, e3, u32_or_nat _ _ (by omega) (by omega), nat_join 24 _ _ (by omega) (by omega), u32_or_nat _ _ (by omega) (by omega), nat_join 16 _ _ (by omega) (by omega), u32_or_nat _ _ (by omega) (by omega), nat_join 8 _ _ (by omega) (by omega)]
  unfold wd
  rw [wv_ofNat]
  · simp [num]; omega
  · simp [num]; omega

theorem be4 (x : Nat) : be 4 x = [UInt8.ofNat (x / 2 ^ 24), UInt8.ofNat (x / 2 ^ 16), UInt8.ofNat (x / 2 ^ 8), UInt8.ofNat (x / 2 ^ 0)] := by
  simp [be, Nat.div_div_eq_div_mul]
theorem be4_get (x i : Nat) (h : i < 4) : (be 4 x)[i]? = some (UInt8.ofNat (x / 2 ^ (24 - 8 * i))) := by
  rw [be4]
  have : i = 0 ∨ i = 1 ∨ i = 2 ∨ i = 3 := by omega
  rcases this with rfl | rfl | rfl | rfl <;> rfl
theorem byteW (x : W32) (d : Nat) : wv x / 2 ^ d % 256 = ((UInt8.ofNat (x.toNat / 2 ^ d)).toNat : Int) := by
  rw [ofNat_toNat, wv_eq]
  have : ((2 : Int) ^ d) = ((2 ^ d : Nat) : Int) := by simp
  rw [this]
  omega

/-- A call that leaves in block g these cells, and turns nothing else that was there. -/
def SetRet (g : Nat) (t : TypeId) (cs : List Value) (w : World) (e : Ending) (w' : World) : Prop := e = .returned (.tuple #[]) ∧ Blk w' g t cs ∧ Kept [g] w w'

theorem wv_shr3 (x : W32) : wv x / (8 : Int) = wv (x >>> 3) := by
  have := wv_shr x 3
  rwa [show (2 : Int) ^ 3 = 8 by decide] at this
theorem wv_shr10 (x : W32) : wv x / (1024 : Int) = wv (x >>> 10) := by
  have := wv_shr x 10
  rwa [show (2 : Int) ^ 10 = 1024 by decide] at this
/-- A word's cell. -/
def wcell (x : W32) : Value := .int .u32 (wv x)
def wvs (l : List W32) : List Value := l.map wcell
theorem wvs_length (l : List W32) : (wvs l).length = l.length := by simp [wvs]
theorem wvs_append (a b : List W32) : wvs (a ++ b) = wvs a ++ wvs b := by simp [wvs]
theorem wvs_one (l : List W32) : ∀ u ∈ wvs l, u.oneCell' = true := by
  intro u hu
  simp only [wvs, List.mem_map] at hu
  obtain ⟨b, _, rfl⟩ := hu
  rfl
theorem wvs_get (l : List W32) (j : Nat) (h : j < l.length) : (wvs l)[j]? = some (.int .u32 (wv (l.getD j 0))) := by simp [wvs, h, wcell]
theorem notW (x : W32) : bits .xor .u32 IntKind.u32.max (wv x) = wv (~~~x) := by
  have e : IntKind.u32.max = wv (BitVec.allOnes 32) := by rw [wv_eq]; decide
  rw [e, bits_xorW, BitVec.allOnes_xor]
/-- The first n of one list, the rest of another. -/
def mid (A B : List W32) (n : Nat) : List W32 := A.take n ++ B.drop n
theorem mid_length (A B : List W32) (n : Nat) (hA : A.length = B.length) (h : n ≤ B.length) : (mid A B n).length = B.length := by simp [mid]; omega
theorem mid_get (A B : List W32) (n : Nat) (hA : A.length = B.length) (h : n < B.length) : (mid A B n)[n]? = B[n]? := by
  unfold mid
  rw [List.getElem?_append_right (by rw [List.length_take]; omega), List.length_take, List.getElem?_drop]
  congr 1; omega
theorem mid_set (A B : List W32) (n : Nat) (hA : A.length = B.length) (h : n < B.length) : (mid A B n).set n (A.getD n 0) = mid A B (n + 1) := by
  unfold mid
  have e1 : (A.take n).length = n := by rw [List.length_take]; omega
  rw [List.set_append_right _ _ (by omega), e1, Nat.sub_self, List.drop_eq_getElem_cons h, List.set_cons_zero]
  rw [take_step A n (A.getD n 0) (by rw [List.getElem?_eq_getElem (by omega), List.getD_eq_getElem?_getD, List.getElem?_eq_getElem (by omega)]; rfl), List.append_assoc]
  rfl
theorem mid_all (A B : List W32) (hA : A.length = B.length) : mid A B B.length = A := by
  unfold mid; rw [List.drop_of_length_le (Nat.le_refl _), List.append_nil, List.take_of_length_le (by omega)]
def midc (A B : List W32) (n : Nat) (r : List Value) : List Value := wvs (mid A B n) ++ r
theorem midc_get (A B : List W32) (n : Nat) (r : List Value) (hA : A.length = B.length) (h : n < B.length) : (midc A B n r)[n]? = some (.int .u32 (wv (B.getD n 0))) := by
  unfold midc
  have hl := mid_length A B n hA (by omega)
  rw [List.getElem?_append_left (by rw [wvs_length]; omega), wvs_get _ _ (by omega), List.getD_eq_getElem?_getD, mid_get A B n hA h, ← List.getD_eq_getElem?_getD]
theorem midc_set (A B : List W32) (n : Nat) (r : List Value) (hA : A.length = B.length) (h : n < B.length) : (midc A B n r).set n (.int .u32 (wv (A.getD n 0))) = midc A B (n + 1) r := by
  unfold midc
  have hl := mid_length A B n hA (by omega)
  rw [List.set_append_left _ _ (by rw [wvs_length]; omega), ← mid_set A B n hA h]
  simp [wvs, List.map_set, wcell]
theorem run_index_agg {P : Program} (t e : TypeId) (n : Nat) (cs : Array Value) (i : Nat) (v : Value) (W : World) (hu : P.underlying t = some (.array n e)) (hs : (P.info? e).map (·.size) = some 1) (d : TypeDesc) (he : P.underlying e = some d) (hd : d.isRow = false) (hi : i < n) (hv : cs[i]? = some v) :
    (Instr.index t (.agg cs) (.int .i64 (i : Int))).run P W = .ok v W := by
  cases hq : P.info? e with
  | none => simp [hq] at hs
  | some inf =>
    have hsz : inf.size = 1 := by simpa [hq] using hs
    have hagg : (isAgg e).run P W = .ok false W := by
      unfold isAgg
      rw [Sem.run_bind, run_underlying he W]
      cases d <;> simp_all
    simp [Instr.index, asIntOf, run_underlying hu, sizeOf, typeInfo, hq, hsz, part, hagg, hv, hi]
theorem wv_add4 (a b c d : W32) : (wv a + wv b + wv c + wv d) % 4294967296 = wv (a + b + c + d) := by
  rw [← wv_add (a + b + c), ← wv_add (a + b), ← wv_add a]; omega
theorem wv_add3 (a b c : W32) : (wv a + wv b + wv c) % 4294967296 = wv (a + b + c) := by
  rw [← wv_add (a + b), ← wv_add a]; omega
/-- A row of words that comes as a value. -/
def AggRet (l : List W32) (w : World) (e : Ending) (w' : World) : Prop := e = .returned (.agg (wvs l).toArray) ∧ Kept [] w w'
/-- A row of bytes that comes as a value. -/
def KeyRet (l : List UInt8) (w : World) (e : Ending) (w' : World) : Prop := e = .returned (.agg (bvs l).toArray) ∧ Kept [] w w'
/-- Noughts. -/
def zb (n : Nat) : List Value := bvs (List.replicate n 0)
theorem zb_length (n : Nat) : (zb n).length = n := by simp [zb, bvs]
def u8v (x : UInt8) : Int := (x.toNat : Int)
theorem bits_xorB (x y : UInt8) : bits .xor .u8 (x.toNat : Int) (y.toNat : Int) = ((x ^^^ y).toNat : Int) := by
  rw [UInt8.toNat_xor]; exact u8_xor_nat _ _ (by have := x.toNat_lt; omega) (by have := y.toNat_lt; omega)
theorem bits_orB (x y : UInt8) : bits .or .u8 (x.toNat : Int) (y.toNat : Int) = ((x ||| y).toNat : Int) := by
  rw [UInt8.toNat_or]; exact u8_or_nat _ _ (by have := x.toNat_lt; omega) (by have := y.toNat_lt; omega)

section
variable {P : Program}
theorem run_cut_all (t e : TypeId) (n g off : Nat) (hu : P.underlying t = some (.array n e)) (hs : (P.info? e).map (·.size) = some 1) (hn : 0 < n) (W : World) :
    (Instr.sliceAt t (.pointer (some ⟨g, off, none⟩)) none none none).run P W = .ok (.slice (some ⟨g, off, none⟩) n n) W := by
  cases hq : P.info? e with
  | none => simp [hq] at hs
  | some i =>
    have hi : i.size = 1 := by simpa [hq] using hs
    simp only [Instr.sliceAt, Instr.sureAddr, Sem.run_bind, run_underlying hu, Result.andThen_ok, Sem.run_pure]
    simp [Instr.sliceBounds, sizeOf, typeInfo, hq, hi, show n ≠ 0 by omega, Addr.add_mid]
end
theorem Blk.all {w : World} {g : Nat} {t : TypeId} {bs : List UInt8} (h : Blk w g t (bvs bs)) (n : Nat) (hl : bs.length = n) (hm : n ≤ 1000) : RdB w (some ⟨g, 0, none⟩) n n bs :=
  h.rdb 0 n n bs (by rw [List.drop_zero, List.take_of_length_le (by rw [bvs_length]; omega)]) hl (Nat.le_refl _) (by simp only [maxLen]; omega)
theorem size_of_len {P : Program} {ty : TypeId} {n : Nat} (h : (P.info? ty).map (·.size) = some n) {bs : List UInt8} (hl : bs.length = n) : (P.info? ty).map (·.size) = some (bvs bs).length := by rw [bvs_length, hl]; exact h
theorem zb_len {n : Nat} {bs : List UInt8} (hl : bs.length = n) : (zb n).length = (bvs bs).length := by rw [bvs_length, hl]; simp [zb, bvs]

end Go.Proofs.YtibcjbelcplpjaaDoor
/-
  Helper words: a key of 32 bytes as a variable. No statement of the seed is proved here.
-/
namespace Go.Proofs.YtibcjbelcplpjaaDoor
open Go.RowKit
set_option linter.unusedVariables false

theorem zero32 : (Tryd.prog.info? 23).bind (·.zero) = some (.agg (zb 32).toArray) := by kernel_rfl
theorem arr32b : Tryd.prog.underlying 23 = some (.array 32 5) := by kernel_rfl
theorem size32 : (Tryd.prog.info? 23).map (·.size) = some 32 := by kernel_rfl
theorem zb_size : (Tryd.prog.info? 23).map (·.size) = some (zb 32).length := by rw [zb_length]; exact size32
theorem zb_one : ∀ u ∈ zb 32, u.oneCell' = true := bvs_one _
end Go.Proofs.YtibcjbelcplpjaaDoor
/-
  Two keys held against each other. No statement of the seed is proved here.
-/
namespace Go.Proofs.YtibcjbelcplpjaaDoor
open Go.RowKit
set_option linter.unusedVariables false

theorem und8k : Tryd.prog.underlying 5 = some (.int .u8) := by kernel_rfl
theorem size_run8k (W : World) : (sizeOf 5).run Tryd.prog W = .ok 1 W := by
  have h1 : (Tryd.prog.info? 5).map (·.size) = some 1 := by kernel_rfl
  cases hq : Tryd.prog.info? 5 with
  | none => simp [hq] at h1
  | some i =>
    have hi : i.size = 1 := by simpa [hq] using h1
    simp [sizeOf, typeInfo, hq, hi]
theorem run_eq32 (l m : List UInt8) (hl : l.length = 32) (hm : m.length = 32) (W : World) : (Op.equalIn 10000 23 (.agg (bvs l).toArray) (.agg (bvs m).toArray)).run Tryd.prog W = .ok (l == m) W :=
  run_equalIn_bytes (P := Tryd.prog) W 9998 23 5 32 arr32b und8k size_run8k l m hl hm
theorem run_eql32 (o : Oper) (ev : Operand → Value) (x y : Operand) (u : TypeId) (ho : o.op = .binOp .eql 23 x y u) (l m : List UInt8) (hl : l.length = 32) (hm : m.length = 32)
    (hx : ev x = .agg (bvs l).toArray) (hy : ev y = .agg (bvs m).toArray) (w : World) : (execOp ev o).run Tryd.prog w = .ok (.value (.bool (l == m))) w := by
  have hg := run_eqGuard_agg (P := Tryd.prog) w .eql 23 x y (bvs l).toArray (bvs m).toArray (by kernel_rfl)
  have he := run_eql_bytes (P := Tryd.prog) w 23 5 32 arr32b und8k size_run8k l m hl hm
  have he2 : (binOp .eql 23 (.agg (bvs l).toArray) (.agg (bvs m).toArray)).run Tryd.prog w = .ok (.bool (l == m)) w := he
  unfold execOp
  simp only [ho, hx, hy, Sem.run_bind, hg, Result.andThen_ok, he2, Sem.run_pure]
theorem run_neq32 (o : Oper) (ev : Operand → Value) (x y : Operand) (u : TypeId) (ho : o.op = .binOp .neq 23 x y u) (l m : List UInt8) (hl : l.length = 32) (hm : m.length = 32)
    (hx : ev x = .agg (bvs l).toArray) (hy : ev y = .agg (bvs m).toArray) (w : World) : (execOp ev o).run Tryd.prog w = .ok (.value (.bool (!(l == m)))) w := by
  have hg := run_eqGuard_agg (P := Tryd.prog) w .neq 23 x y (bvs l).toArray (bvs m).toArray (by kernel_rfl)
  have he := run_eq32 l m hl hm w
  unfold execOp
  simp only [ho, hx, hy, Sem.run_bind, hg, Result.andThen_ok]
  simp [binOp, Op.equal]
  rw [show Op.maxDepth = 10000 from rfl, he]
  rfl
end Go.Proofs.YtibcjbelcplpjaaDoor
/-
  Objects' names as values; two held against each other. No statement of the seed is proved here.
-/
namespace Go.Proofs.YtibcjbelcplpjaaDoor
open Go.RowKit
set_option linter.unusedVariables false

theorem zeroId : (Tryd.prog.info? 25).bind (·.zero) = some (.agg (zb 16).toArray) := by kernel_rfl
theorem sizeId : (Tryd.prog.info? 25).map (·.size) = some 16 := by kernel_rfl
theorem zb16_size : (Tryd.prog.info? 25).map (·.size) = some (zb 16).length := by kernel_rfl
theorem zb16_one : ∀ v ∈ zb 16, v.oneCell' = true := bvs_one _
theorem builtId : Tryd.prog.built 25 [] = some (zb 16).toArray := by kernel_rfl
theorem arrId : Tryd.prog.underlying 25 = some (.array 16 5) := by kernel_rfl
theorem run_neqId (o : Oper) (ev : Operand → Value) (x y : Operand) (u : TypeId) (ho : o.op = .binOp .neq 25 x y u) (l m : List UInt8) (hl : l.length = 16) (hm : m.length = 16)
    (hx : ev x = .agg (bvs l).toArray) (hy : ev y = .agg (bvs m).toArray) (w : World) : (execOp ev o).run Tryd.prog w = .ok (.value (.bool (!(l == m)))) w := by
  have hg := run_eqGuard_agg (P := Tryd.prog) w .neq 25 x y (bvs l).toArray (bvs m).toArray (by kernel_rfl)
  have he : (Op.equalIn 10000 25 (.agg (bvs l).toArray) (.agg (bvs m).toArray)).run Tryd.prog w = .ok (l == m) w := run_equalIn_bytes (P := Tryd.prog) w 9998 25 5 16 arrId und8k size_run8k l m hl hm
  unfold execOp
  simp only [ho, hx, hy, Sem.run_bind, hg, Result.andThen_ok]
  simp [binOp, Op.equal]
  rw [show Op.maxDepth = 10000 from rfl, he]
  rfl
end Go.Proofs.YtibcjbelcplpjaaDoor
/-
  Contracts of layer 13, the document's own: a number's digits, a frame's name. No statement of the seed is proved here.
-/
namespace Go.Proofs.YtibcjbelcplpjaaDoor
open Go.RowKit
set_option linter.unusedVariables false

/-- A string told. -/
def StrRet (l : List UInt8) (w : World) (e : Ending) (w' : World) : Prop := ∃ s : ByteArray, e = .returned (.string s) ∧ strL s = l ∧ Kept [] w w'
theorem decN_len20 {n : Nat} (h : n < 18446744073709551616) : (decN n).length ≤ 20 := decN_length (k := 20) (by omega) (by omega)

theorem dec_step {P : Program} {X x : Nat} {s : ByteArray} (hX : X < 18446744073709551616) (hx : 9 < x) (h : decN X = decN x ++ strL s) :
    ∃ t : ByteArray, (∀ v : World, (Op.stringOp .add ⟨[UInt8.ofNat (48 + x % 10)].toArray⟩ s).run P v = .ok (.string t) v) ∧ decN X = decN (x / 10) ++ strL t := by
  have hl := decN_len20 hX
  rw [h, List.length_append, strL_length] at hl
  refine ⟨(⟨[UInt8.ofNat (48 + x % 10)].toArray⟩ : ByteArray) ++ s, fun v => run_string_add_sum v _ _ (by rw [size_mk]; simp; omega), ?_⟩
  rw [h, decN_hi (by omega), List.append_assoc]
  congr 1
theorem dec_end {P : Program} (HS : ByteArray) {pre R : List UInt8} {X x : Nat} {s : ByteArray} (h1 : strL HS = pre) (hsz : HS.size ≤ 10) (h2 : R = pre ++ decN X) (hX : X < 18446744073709551616) (hx : x < 10) (h : decN X = decN x ++ strL s) :
    ∃ t1 t2 : ByteArray, (∀ v : World, (Op.stringOp .add HS ⟨[UInt8.ofNat (48 + x)].toArray⟩).run P v = .ok (.string t1) v) ∧ (∀ v : World, (Op.stringOp .add t1 s).run P v = .ok (.string t2) v) ∧ strL t2 = R := by
  have hl := decN_len20 hX
  rw [h, List.length_append, strL_length] at hl
  obtain ⟨t1, ht1⟩ := str_mk (pre ++ [UInt8.ofNat (48 + x)])
  obtain ⟨t2, ht2⟩ := str_mk R
  have hp : pre.length ≤ 10 := by rw [← h1, strL_length]; exact hsz
  have hz1 : t1.size ≤ 20 := by rw [← strL_length, ht1]; simp; omega
  refine ⟨t1, t2, fun v => add_rule _ _ _ (by rw [ht1, h1, strL_mk]) (by omega) (by rw [size_mk]; simp) v, fun v => add_rule _ _ _ (by rw [ht2, ht1, h2, h, decN_lo hx]; simp) (by omega) (by omega) v, ht2⟩

set_option maxRecDepth 100000 in
set_option maxHeartbeats 4000000 in
theorem rDec_any (z : Int) (w : World) (h0 : -9223372036854775808 ≤ z) (h1 : z ≤ 9223372036854775807) : Calls Tryd.prog 33 #[.int .i64 z] w (StrRet (decZ z) w) := by
  obtain ⟨R, hR⟩ : ∃ R, decZ z = R := ⟨_, rfl⟩
  rw [hR]
  obtain ⟨X, hX⟩ : ∃ X, z.natAbs = X := ⟨_, rfl⟩
  have hX2 : X < 18446744073709551616 := by omega
  have HS := Lib.hid (fun (x : Nat) (s : ByteArray) => dec_step (P := Tryd.prog) (X := X) (x := x) (s := s) hX2)
  rcases (by omega : z < 0 ∨ ¬ z < 0) with hz | hz
  · have HE := Lib.hid (fun (x : Nat) (s : ByteArray) => dec_end (P := Tryd.prog) (x := x) (s := s) ⟨#[45]⟩ (pre := [45]) (R := R) rfl (by decide) (by rw [← hR, decZ_neg hz, hX]; rfl) hX2)
    have r1 : IntKind.u64.wrap z = z + 18446744073709551616 := by simp [IntKind.wrap, IntKind.bits, IntKind.signed]; omega
    have r2 : IntKind.u64.wrap (-(z + 18446744073709551616)) = (X : Int) := by simp [IntKind.wrap, IntKind.bits, IntKind.signed]; omega
    clear hR
    go_enter Tryd.func33, Tryd.ntmps33
    go_wp2
    go_loopw [3, 5] (fun x o wr => ∃ (k : Nat) (s : ByteArray), x = .int .u64 (k : Int) ∧ o = .string s ∧ k ≤ X ∧ Hid (decN X = decN k ++ strL s) ∧ Hid (Kept [] w wr)) (fun x _ _ => (intOf x).toNat)
    case atStart => exact ⟨X, ⟨#[]⟩, rfl, rfl, Nat.le_refl _, Lib.hid (by simp [strL]), Lib.hid (Kept.refl _ _)⟩
    case round =>
      obtain ⟨k, s, rfl, rfl, hk, Hs, HK⟩ := hrel
      by_cases hlt : 9 < k
      · obtain ⟨t, ht, hd⟩ := HS.out k s hlt Hs.out
        have HT := Lib.hid hd
        have HA : Hid (Kept [] w (wr.alloc (.cells #[.int .u8 (48 + (k : Int) % 10)] 5))) := Lib.hid (HK.out.alloc _)
        have hb : (48 + (k : Int) % 10) = ((UInt8.ofNat (48 + k % 10)).toNat : Int) := by rw [ofNat_toNat]; omega
        generalize UInt8.ofNat (48 + k % 10) = y at *
        have HR1 : Hid (RdB (wr.alloc (.cells #[.int .u8 (48 + (k : Int) % 10)] 5)) (some ⟨wr.heap.size, 0, none⟩) 1 1 [y]) := Lib.hid (RdB.one _ _ _ _ hb)
        have q10 : k < 18446744073709551616 := by omega
        clear hd hb Hs HK
        go_wp2_with (with_reducible change wpList _ _ _ (⟨_, Op.convert 26 9 _, _, _, _, _⟩ :: _) _ _; refine wpList_to_str rfl 26 9 5 (.tmp 18) rfl _ 1 1 [y] rfl HR1.out Tryd.underlying26 Tryd.underlying5 Tryd.underlying9 ?_)
        go_roundw
        case rel => exact ⟨k / 10, t, by go_num, rfl, by omega, HT, HA⟩
        case measure => simp [intOf]; omega
      · obtain ⟨t1, t2, ht1, ht2, hd⟩ := HE.out k s (by omega) Hs.out
        have HT := Lib.hid hd
        have HA : Hid (Kept [] w (wr.alloc (.cells #[.int .u8 (48 + (k : Int))] 5))) := Lib.hid (HK.out.alloc _)
        have hb : (48 + (k : Int)) = ((UInt8.ofNat (48 + k)).toNat : Int) := by rw [ofNat_toNat]; omega
        generalize UInt8.ofNat (48 + k) = y at *
        have HR1 : Hid (RdB (wr.alloc (.cells #[.int .u8 (48 + (k : Int))] 5)) (some ⟨wr.heap.size, 0, none⟩) 1 1 [y]) := Lib.hid (RdB.one _ _ _ _ hb)
        clear hd hb Hs HK
        go_wp2_with (with_reducible change wpList _ _ _ (⟨_, Op.convert 26 9 _, _, _, _, _⟩ :: _) _ _; refine wpList_to_str rfl 26 9 5 (.tmp 28) rfl _ 1 1 [y] rfl HR1.out Tryd.underlying26 Tryd.underlying5 Tryd.underlying9 ?_)
        go_ret
        exact ⟨t2, rfl, HT.out, HA.out⟩
  · have HE := Lib.hid (fun (x : Nat) (s : ByteArray) => dec_end (P := Tryd.prog) (x := x) (s := s) ⟨#[]⟩ (pre := []) (R := R) rfl (by decide) (by rw [← hR, decZ_pos hz, hX]; rfl) hX2)
    have r1 : IntKind.u64.wrap z = (X : Int) := by rw [IntWalk.u64_in _ (by omega)]; omega
    clear hR
    go_enter Tryd.func33, Tryd.ntmps33
    go_wp2
    go_loopw [3, 5] (fun x o wr => ∃ (k : Nat) (s : ByteArray), x = .int .u64 (k : Int) ∧ o = .string s ∧ k ≤ X ∧ Hid (decN X = decN k ++ strL s) ∧ Hid (Kept [] w wr)) (fun x _ _ => (intOf x).toNat)
    case atStart => exact ⟨X, ⟨#[]⟩, rfl, rfl, Nat.le_refl _, Lib.hid (by simp [strL]), Lib.hid (Kept.refl _ _)⟩
    case round =>
      obtain ⟨k, s, rfl, rfl, hk, Hs, HK⟩ := hrel
      by_cases hlt : 9 < k
      · obtain ⟨t, ht, hd⟩ := HS.out k s hlt Hs.out
        have HT := Lib.hid hd
        have HA : Hid (Kept [] w (wr.alloc (.cells #[.int .u8 (48 + (k : Int) % 10)] 5))) := Lib.hid (HK.out.alloc _)
        have hb : (48 + (k : Int) % 10) = ((UInt8.ofNat (48 + k % 10)).toNat : Int) := by rw [ofNat_toNat]; omega
        generalize UInt8.ofNat (48 + k % 10) = y at *
        have HR1 : Hid (RdB (wr.alloc (.cells #[.int .u8 (48 + (k : Int) % 10)] 5)) (some ⟨wr.heap.size, 0, none⟩) 1 1 [y]) := Lib.hid (RdB.one _ _ _ _ hb)
        have q10 : k < 18446744073709551616 := by omega
        clear hd hb Hs HK
        go_wp2_with (with_reducible change wpList _ _ _ (⟨_, Op.convert 26 9 _, _, _, _, _⟩ :: _) _ _; refine wpList_to_str rfl 26 9 5 (.tmp 18) rfl _ 1 1 [y] rfl HR1.out Tryd.underlying26 Tryd.underlying5 Tryd.underlying9 ?_)
        go_roundw
        case rel => exact ⟨k / 10, t, by go_num, rfl, by omega, HT, HA⟩
        case measure => simp [intOf]; omega
      · obtain ⟨t1, t2, ht1, ht2, hd⟩ := HE.out k s (by omega) Hs.out
        have HT := Lib.hid hd
        have HA : Hid (Kept [] w (wr.alloc (.cells #[.int .u8 (48 + (k : Int))] 5))) := Lib.hid (HK.out.alloc _)
        have hb : (48 + (k : Int)) = ((UInt8.ofNat (48 + k)).toNat : Int) := by rw [ofNat_toNat]; omega
        generalize UInt8.ofNat (48 + k) = y at *
        have HR1 : Hid (RdB (wr.alloc (.cells #[.int .u8 (48 + (k : Int))] 5)) (some ⟨wr.heap.size, 0, none⟩) 1 1 [y]) := Lib.hid (RdB.one _ _ _ _ hb)
        clear hd hb Hs HK
        go_wp2_with (with_reducible change wpList _ _ _ (⟨_, Op.convert 26 9 _, _, _, _, _⟩ :: _) _ _; refine wpList_to_str rfl 26 9 5 (.tmp 28) rfl _ 1 1 [y] rfl HR1.out Tryd.underlying26 Tryd.underlying5 Tryd.underlying9 ?_)
        go_ret
        exact ⟨t2, rfl, HT.out, HA.out⟩
end Go.Proofs.YtibcjbelcplpjaaDoor
/-
  What layer 13's laws ask of names: the contract that the program's own Name keeps. No statement of the seed is proved here.
-/
namespace Go.Proofs.YtibcjbelcplpjaaDoor
open Go.RowKit
set_option linter.unusedVariables false

structure NameHas (G : World → Prop) : Prop where
  kept : ∀ {w w' : World}, G w → Kept [] w w' → G w'
  name : ∀ (o : List UInt8) (z : Int) (w : World), o.length = 16 → -9223372036854775808 ≤ z → z ≤ 9223372036854775807 → G w → Calls Tryd.prog 18 #[.agg (bvs o).toArray, .int .i64 z] w (StrRet (nameL o z) w)
end Go.Proofs.YtibcjbelcplpjaaDoor
/-
  Contract of layer 13, the law's own: the example holds. No statement of the seed is proved here.
-/
namespace Go.Proofs.YtibcjbelcplpjaaDoor
open Go.RowKit
set_option linter.unusedVariables false

theorem name0 : nameL (List.replicate 16 0) 12 = [102, 48, 48, 48, 48, 48, 48, 48, 48, 48, 48, 48, 48, 48, 48, 48, 48, 48, 48, 48, 48, 48, 48, 48, 48, 48, 48, 48, 48, 48, 48, 48, 48, 46, 49, 50] := by
  have e : decZ 12 = [49, 50] := by
    rw [decZ_pos (by omega), show (12 : Int).natAbs = 12 from rfl, decN_hi (by omega), decN_lo (by omega)]
    rfl
  unfold nameL
  rw [e]
  rfl
set_option maxRecDepth 100000 in
set_option maxHeartbeats 4000000 in
theorem wakes13_any {G : World → Prop} (HN : NameHas G) (w : World) (hgl : G w) : Calls Tryd.prog 7 #[] w fun e w' => e = .returned (.bool true) ∧ Kept [] w w' := by
  have HC := Lib.hid (HN.name (List.replicate 16 0) 12)
  have Hgl := Lib.hid hgl
  clear HN hgl
  go_enter Tryd.func7, Tryd.ntmps7
  go_wp2_with fail
  refine (HC.out _ (by simp) (by omega) (by omega) Hgl.out).mono ?_
  rw [name0]
  rintro e w1 ⟨s, rfl, hs, hk1⟩
  have HK1 := Lib.hid hk1
  have he := str_of s _ hs
  subst he
  clear hs hk1
  go_wp2
  go_ret
  exact ⟨ret_bool (by decide +kernel), HK1.out⟩
end Go.Proofs.YtibcjbelcplpjaaDoor
/-
  Plain mathematics of layer 1, going on: what was put is taken. Nothing of the program here.
-/
namespace Go.Proofs.YtibcjbelcplpjaaDoor

theorem tnum_be (n x : Nat) (rest : List UInt8) (h1 : 1 ≤ n) (h8 : n ≤ 8) (hx : x < 256 ^ n) : tnum (be n x ++ rest) n = (x, n, 0) := by
  unfold tnum
  have hl := be_length n x
  rw [if_neg (by omega), Int.toNat_natCast, if_neg (by rw [List.length_append, hl]; omega), List.take_append_of_le_length (by omega), List.take_of_length_le (by omega), num_be n x hx]

theorem tsm_sm (x most : Nat) (rest : List UInt8) (hx : x < 4294967296) (hm : x ≤ most) : tsm (sm x ++ rest) most = (x, 1 + fol x, 0) := by
  unfold sm fol
  by_cases h : x ≤ 250
  · have e : (UInt8.ofNat x).toNat = x := by rw [ofNat_toNat]; omega
    rw [if_pos h, if_pos h]
    simp only [List.singleton_append, tsm, e]
    rw [if_neg (by omega), if_pos h, if_neg (by omega)]
  · have hw := wid_small x hx
    have hp := wid_pos x
    have e : (UInt8.ofNat (250 + wid x)).toNat = 250 + wid x := by rw [ofNat_toNat]; omega
    have hl := be_length (wid x) x
    have ht : (be (wid x) x ++ rest).take (wid x) = be (wid x) x := by
      rw [List.take_append_of_le_length (by omega), List.take_of_length_le (by omega)]
    rw [if_neg h, if_neg h]
    simp only [List.cons_append, tsm, e, Nat.add_sub_cancel_left]
    rw [if_neg (by omega), if_neg (by omega), if_neg (by rw [List.length_append, hl]; omega), ht, num_be _ _ (wid_lt x (by omega)), if_neg, if_neg (by omega)]
    unfold fol
    rw [if_neg h]
    simp

theorem ttext_put (bs rest : List UInt8) (most : Int) (hl : bs.length < 4294967296) (hm : (bs.length : Int) ≤ most) : ttext (sm bs.length ++ bs ++ rest) most = (bs, 1 + fol bs.length + bs.length, 0) := by
  have hs := sm_length bs.length
  have ht := tsm_sm bs.length (max most 0).toNat (bs ++ rest) hl (by omega)
  unfold ttext
  rw [List.append_assoc, ht]
  simp only
  rw [if_neg (by simp), if_neg (by simp only [List.length_append, hs]; omega), List.drop_append, ← hs, List.drop_of_length_le (Nat.le_refl _), Nat.sub_self, List.drop_zero, List.nil_append]
  rw [List.take_append_of_le_length (Nat.le_refl _), List.take_of_length_le (Nat.le_refl _)]

/-- The bytes that told a small number are those that it is put as. -/
theorem sm_of_tsm {bs : List UInt8} {most x s : Nat} (h : tsm bs most = (x, s, 0)) : bs.take s = sm x := by
  unfold tsm at h
  split at h
  · simp at h
  · rename_i b rest
    split at h
    · simp at h
    · split at h
      · split at h
        · simp at h
        · simp only [Prod.mk.injEq] at h
          obtain ⟨rfl, rfl, _⟩ := h
          unfold sm
          rw [if_pos (by assumption)]
          simp
      · split at h
        · simp at h
        · split at h
          · simp at h
          · split at h
            · simp at h
            · rename_i h5 h250 hlen hfol _
              simp only [Prod.mk.injEq] at h
              obtain ⟨rfl, rfl, _⟩ := h
              have hb := b.toNat_lt
              have hf : fol (num (rest.take (b.toNat - 250))) = b.toNat - 250 := Decidable.not_not.1 hfol
              have hl : (rest.take (b.toNat - 250)).length = b.toNat - 250 := by rw [List.length_take]; omega
              have hbe := be_num (rest.take (b.toNat - 250))
              rw [hl] at hbe
              generalize num (rest.take (b.toNat - 250)) = y at *
              have hy : ¬ y ≤ 250 := by intro hy; unfold fol at hf; rw [if_pos hy] at hf; omega
              have hw : wid y = b.toNat - 250 := by unfold fol at hf; rw [if_neg hy] at hf; exact hf
              unfold sm
              rw [if_neg hy, hw, hbe]
              have e : UInt8.ofNat (250 + (b.toNat - 250)) = b := by
                apply UInt8.toNat_inj.1
                rw [ofNat_toNat]; omega
              rw [e, Nat.add_comm, List.take_succ_cons]
end Go.Proofs.YtibcjbelcplpjaaDoor
/-
  Plain mathematics of layer 1: what a small number that is taken is. Nothing of the program here.
-/
namespace Go.Proofs.YtibcjbelcplpjaaDoor

theorem tsm_facts {bs : List UInt8} {most x s er : Nat} (h : tsm bs most = (x, s, er)) : x < 4294967296 ∧ s ≤ bs.length ∧ s ≤ 5 ∧ er ≤ 3 ∧ (er ≠ 0 → x = 0 ∧ s = 0) := by
  have hle := tsm_le bs most
  rw [h] at hle
  obtain ⟨h1, h2, h3, h4, h5⟩ := hle
  refine ⟨h1, h2, h3, h4, fun he => ?_⟩
  have := h5 he
  simp only [Prod.mk.injEq] at this
  exact ⟨this.1, this.2.1⟩
end Go.Proofs.YtibcjbelcplpjaaDoor
/-
  Plain mathematics of layer 3: what a key becomes, the tag. Nothing of the program here.
-/
namespace Go.Proofs.YtibcjbelcplpjaaDoor
set_option linter.unusedVariables false

def hpad (l : List UInt8) : List UInt8 := l ++ List.replicate (64 - l.length) 0
@[irreducible] def hkey (key : List UInt8) : List UInt8 := hpad (if 64 < key.length then shaSum key else key)
theorem hkey_long {key : List UInt8} (h : 64 < key.length) : hkey key = hpad (shaSum key) := by unfold hkey; rw [if_pos h]
theorem hkey_short {key : List UInt8} (h : key.length ≤ 64) : hkey key = hpad key := by unfold hkey; rw [if_neg (by omega)]
theorem hpad_length {l : List UInt8} (h : l.length ≤ 64) : (hpad l).length = 64 := by
  unfold hpad; rw [List.length_append, List.length_replicate]; omega
theorem hkey_length (key : List UInt8) : (hkey key).length = 64 := by
  by_cases h : 64 < key.length
  · rw [hkey_long h]; exact hpad_length (by rw [shaSum_length]; omega)
  · rw [hkey_short (by omega)]; exact hpad_length (by omega)
@[irreducible] def hx (x : UInt8) (l : List UInt8) : List UInt8 := l.map (· ^^^ x)
theorem hx_eq (x : UInt8) (l : List UInt8) : hx x l = l.map (· ^^^ x) := by unfold hx; rfl
theorem hx_length (x : UInt8) (l : List UInt8) : (hx x l).length = l.length := by rw [hx_eq]; simp
theorem hxk_length (x : UInt8) (key : List UInt8) : (hx x (hkey key)).length = 64 := by rw [hx_length, hkey_length]
@[irreducible] def hTag (key text : List UInt8) : List UInt8 := shaSum (hx 92 (hkey key) ++ shaSum (hx 54 (hkey key) ++ text))
theorem hTag_eq (key text : List UInt8) : hTag key text = shaSum (hx 92 (hkey key) ++ shaSum (hx 54 (hkey key) ++ text)) := by unfold hTag; rfl
theorem hTag_length (key text : List UInt8) : (hTag key text).length = 32 := by rw [hTag_eq]; exact shaSum_length _
theorem hTag_digest {key : List UInt8} (text : List UInt8) (h : 64 < key.length) : hTag (shaSum key) text = hTag key text := by
  have e : hkey (shaSum key) = hkey key := by rw [hkey_long h, hkey_short (by rw [shaSum_length]; omega)]
  rw [hTag_eq, hTag_eq, e]
theorem hTag_noughts {key : List UInt8} (text : List UInt8) (n : Nat) (h : key.length + n ≤ 64) : hTag (key ++ List.replicate n 0) text = hTag key text := by
  have e : hkey (key ++ List.replicate n 0) = hkey key := by
    rw [hkey_short (by rw [List.length_append, List.length_replicate]; omega), hkey_short (by omega)]
    unfold hpad
    rw [List.append_assoc, List.replicate_append_replicate, List.length_append, List.length_replicate]
    congr 2; omega
  rw [hTag_eq, hTag_eq, e]
/-- What the texts of a list are, each behind its length. -/
def told (be4 : Nat → List UInt8) (ls : List (List UInt8)) : List UInt8 := (ls.map fun l => be4 l.length ++ l).flatten
theorem jefe4 : (hTag [74, 101, 102, 101] [119, 104, 97, 116, 32, 100, 111, 32, 121, 97, 32, 119, 97, 110, 116, 32, 102, 111, 114, 32, 110, 111, 116, 104, 105, 110, 103, 63]).take 4 = [91, 220, 193, 70] := by
  rw [hTag_eq, hkey_short (by decide), hx_eq, hx_eq, shaSum_eq, shaSum_eq]
  decide +kernel
end Go.Proofs.YtibcjbelcplpjaaDoor
/-
  Plain mathematics: a field in which x + x = 0, sums, matrices as functions of two places, rows that no sum of multiples ties, ranks, Cauchy's matrix. Nothing of the program here.
-/
namespace Go.Proofs.YtibcjbelcplpjaaDoor
set_option linter.unusedVariables false

class Fld (F : Type) extends Add F, Mul F, Zero F, One F where
  inv : F → F
  add_comm : ∀ x y : F, x + y = y + x
  add_assoc : ∀ x y z : F, x + y + z = x + (y + z)
  add_zero : ∀ x : F, x + 0 = x
  add_self : ∀ x : F, x + x = 0
  mul_comm : ∀ x y : F, x * y = y * x
  mul_assoc : ∀ x y z : F, x * y * z = x * (y * z)
  mul_add : ∀ x y z : F, x * (y + z) = x * y + x * z
  mul_one : ∀ x : F, x * 1 = x
  mul_inv : ∀ x : F, x ≠ 0 → x * inv x = 1
  one_ne : (1 : F) ≠ 0

section
variable {F : Type} [Fld F]
open Fld

theorem f_zero_add (x : F) : 0 + x = x := by rw [add_comm, add_zero]
theorem f_mul_zero (x : F) : x * 0 = 0 := by
  have h := mul_add x 0 0
  rw [add_zero] at h
  have h2 := congrArg (· + x * 0) h
  simp only [add_self, f_zero_add] at h2
  exact h2.symm
theorem f_zero_mul (x : F) : 0 * x = 0 := by rw [mul_comm, f_mul_zero]
theorem f_one_mul (x : F) : 1 * x = x := by rw [mul_comm, mul_one]
theorem f_add_mul (x y z : F) : (x + y) * z = x * z + y * z := by rw [mul_comm, mul_add, mul_comm z x, mul_comm z y]
theorem f_eq_of_add {x y : F} (h : x + y = 0) : x = y := by
  have := congrArg (· + y) h
  simp only [add_assoc, add_self, add_zero, f_zero_add] at this
  exact this
theorem f_add_left_comm (x y z : F) : x + (y + z) = y + (x + z) := by rw [← add_assoc, add_comm x y, add_assoc]
theorem f_mul_left_comm (x y z : F) : x * (y * z) = y * (x * z) := by rw [← mul_assoc, mul_comm x y, mul_assoc]
theorem f_zero_of_mul {x y : F} (h : x * y = 0) (hx : x ≠ 0) : y = 0 := by
  have := congrArg (inv x * ·) h
  simp only [f_mul_zero] at this
  rw [← mul_assoc, mul_comm (inv x) x, mul_inv x hx, f_one_mul] at this
  exact this
theorem f_mul_ne {x y : F} (hx : x ≠ 0) (hy : y ≠ 0) : x * y ≠ 0 := fun h => hy (f_zero_of_mul h hx)
theorem f_inv_ne {x : F} (hx : x ≠ 0) : inv x ≠ 0 := fun h => by
  have := mul_inv x hx
  rw [h, f_mul_zero] at this
  exact one_ne this.symm
theorem f_add_ne {x y : F} (h : x ≠ y) : x + y ≠ 0 := fun e => h (f_eq_of_add e)

/-- The sum of the first n. -/
def fsm : Nat → (Nat → F) → F
  | 0, _ => 0
  | n + 1, f => fsm n f + f n
theorem sm_congr {n : Nat} {f g : Nat → F} (h : ∀ i, i < n → f i = g i) : fsm n f = fsm n g := by
  induction n with
  | zero => rfl
  | succ n ih => unfold fsm; rw [ih (fun i hi => h i (by omega)), h n (by omega)]
theorem sm_zero {n : Nat} {f : Nat → F} (h : ∀ i, i < n → f i = 0) : fsm n f = 0 := by
  induction n with
  | zero => rfl
  | succ n ih => unfold fsm; rw [ih (fun i hi => h i (by omega)), h n (by omega), add_zero]
theorem sm_add (n : Nat) (f g : Nat → F) : fsm n (fun i => f i + g i) = fsm n f + fsm n g := by
  induction n with
  | zero => exact (add_zero 0).symm
  | succ n ih => unfold fsm; rw [ih, add_assoc, add_assoc, f_add_left_comm (fsm n g)]
theorem sm_mul (n : Nat) (c : F) (f : Nat → F) : fsm n (fun i => c * f i) = c * fsm n f := by
  induction n with
  | zero => exact (f_mul_zero c).symm
  | succ n ih => unfold fsm; rw [ih, mul_add]
theorem sm_mul_r (n : Nat) (c : F) (f : Nat → F) : fsm n (fun i => f i * c) = fsm n f * c := by
  rw [mul_comm, ← sm_mul]; exact sm_congr fun i _ => mul_comm _ _
theorem sm_swap (n m : Nat) (f : Nat → Nat → F) : fsm n (fun i => fsm m (fun j => f i j)) = fsm m (fun j => fsm n (fun i => f i j)) := by
  induction n with
  | zero => exact (sm_zero fun _ _ => rfl).symm
  | succ n ih => simp only [fsm]; rw [ih, ← sm_add]
/-- One of them alone. -/
theorem sm_one {n : Nat} {f : Nat → F} {p : Nat} (hp : p < n) (h : ∀ i, i < n → i ≠ p → f i = 0) : fsm n f = f p := by
  induction n with
  | zero => omega
  | succ n ih =>
    unfold fsm
    by_cases e : p = n
    · subst e
      rw [sm_zero (fun i hi => h i (by omega) (by omega)), f_zero_add]
    · rw [ih (by omega) (fun i hi hne => h i (by omega) hne), h n (by omega) (by omega), add_zero]
/-- All but one, and the one. -/
def skip (p i : Nat) : Nat := if i < p then i else i + 1
theorem sm_skip {n : Nat} (f : Nat → F) {p : Nat} (hp : p ≤ n) : fsm (n + 1) f = fsm n (fun i => f (skip p i)) + f p := by
  induction n with
  | zero => obtain rfl : p = 0 := by omega
            rfl
  | succ n ih =>
    by_cases e : p = n + 1
    · subst e
      rw [show fsm (n + 1 + 1) f = fsm (n + 1) f + f (n + 1) from rfl]
      congr 1
      exact sm_congr fun i hi => by unfold skip; rw [if_pos hi]
    · rw [show fsm (n + 1 + 1) f = fsm (n + 1) f + f (n + 1) from rfl, ih (by omega)]
      rw [show fsm (n + 1) (fun i => f (skip p i)) = fsm n (fun i => f (skip p i)) + f (skip p n) from rfl]
      have hs : skip p n = n + 1 := by unfold skip; rw [if_neg (by omega)]
      rw [hs, add_assoc, add_assoc, add_comm (f p)]
theorem skip_ne (p i : Nat) : skip p i ≠ p := by unfold skip; split <;> omega
theorem skip_lt {p i n : Nat} (h : i < n) : skip p i < n + 1 := by unfold skip; split <;> omega

/-- More rows than columns: some of them are tied. -/
theorem homog : ∀ (n m : Nat) (a : Nat → Nat → F), n < m → ∃ c : Nat → F, (∃ i, i < m ∧ c i ≠ 0) ∧ ∀ j, j < n → fsm m (fun i => c i * a i j) = 0
  | 0, m, a, h => ⟨fun i => if i = 0 then 1 else 0, ⟨0, h, by simp; exact one_ne⟩, fun j hj => by omega⟩
  | n + 1, m, a, h => by
    by_cases hz : ∀ i, i < m → a i n = 0
    · obtain ⟨c, hc, h0⟩ := homog n m a (by omega)
      refine ⟨c, hc, fun j hj => ?_⟩
      by_cases e : j = n
      · subst e
        exact sm_zero fun i hi => by rw [hz i hi, f_mul_zero]
      · exact h0 j (by omega)
    · obtain ⟨p, hp, hpn⟩ : ∃ p, p < m ∧ a p n ≠ 0 := by
        apply Classical.byContradiction
        intro hno
        exact hz fun i hi => Classical.byContradiction fun hne => hno ⟨i, hi, hne⟩
      obtain ⟨m', rfl⟩ : ∃ m', m = m' + 1 := ⟨m - 1, by omega⟩
      obtain ⟨c, ⟨i0, hi0, hc0⟩, h0⟩ := homog n m' (fun i j => a (skip p i) j + a (skip p i) n * inv (a p n) * a p j) (by omega)
      let s : F := fsm m' (fun i => c i * (a (skip p i) n * inv (a p n)))
      let d : Nat → F := fun i => if i < p then c i else if i = p then s else c (i - 1)
      have hd1 : ∀ i, d (skip p i) = c i := by
        intro i
        show (if skip p i < p then c (skip p i) else if skip p i = p then s else c (skip p i - 1)) = c i
        unfold skip
        by_cases hi : i < p
        · rw [if_pos hi, if_pos hi]
        · rw [if_neg hi, if_neg (by omega), if_neg (by omega)]; rfl
      have hd2 : d p = s := by
        show (if p < p then c p else if p = p then s else c (p - 1)) = s
        rw [if_neg (by omega), if_pos rfl]
      refine ⟨d, ⟨skip p i0, skip_lt hi0, by rw [hd1]; exact hc0⟩, fun j hj => ?_⟩
      rw [sm_skip _ (by omega : p ≤ m'), hd2]
      have e1 : fsm m' (fun i => d (skip p i) * a (skip p i) j) = fsm m' (fun i => c i * a (skip p i) j) := sm_congr fun i _ => by rw [hd1]
      rw [e1]
      have e2 : s * a p j = fsm m' (fun i => c i * (a (skip p i) n * inv (a p n) * a p j)) := by
        show fsm m' (fun i => c i * (a (skip p i) n * inv (a p n))) * a p j = _
        rw [← sm_mul_r]
        exact sm_congr fun i _ => by simp only [mul_assoc]
      rw [e2, ← sm_add]
      have e3 : fsm m' (fun i => c i * a (skip p i) j + c i * (a (skip p i) n * inv (a p n) * a p j)) = fsm m' (fun i => c i * (a (skip p i) j + a (skip p i) n * inv (a p n) * a p j)) := sm_congr fun i _ => by rw [mul_add]
      rw [e3]
      by_cases e : j = n
      · subst e
        refine sm_zero fun i _ => ?_
        rw [mul_assoc, mul_comm (inv (a p j)), mul_inv _ hpn, mul_one, add_self, f_mul_zero]
      · exact h0 j (by omega)

/-- No sum of multiples of the first m rows, over the first n columns, is nothing, but that of noughts. -/
def Indep (n m : Nat) (a : Nat → Nat → F) : Prop := ∀ c : Nat → F, (∀ j, j < n → fsm m (fun i => c i * a i j) = 0) → ∀ i, i < m → c i = 0
theorem Indep.le {n m : Nat} {a : Nat → Nat → F} (h : Indep n m a) : m ≤ n := by
  apply Classical.byContradiction
  intro hlt
  obtain ⟨c, ⟨i, hi, hc⟩, h0⟩ := homog n m a (by omega)
  exact hc (h c h0 i hi)
/-- Steinitz: rows that aren't tied, out of s others, are no more than s. -/
theorem Indep.span {n r s : Nat} {u v A : Nat → Nat → F} (h : Indep n r u) (hu : ∀ i, i < r → ∀ j, j < n → u i j = fsm s (fun k => A i k * v k j)) : r ≤ s := by
  apply Classical.byContradiction
  intro hlt
  obtain ⟨c, ⟨i, hi, hc⟩, h0⟩ := homog s r A (by omega)
  refine hc (h c (fun j hj => ?_) i hi)
  have e1 : fsm r (fun i => c i * u i j) = fsm r (fun i => fsm s (fun k => c i * A i k * v k j)) := sm_congr fun i hi => by
    rw [hu i hi j hj, ← sm_mul]; exact sm_congr fun k _ => by rw [mul_assoc]
  rw [e1, sm_swap]
  exact sm_zero fun k hk => by rw [sm_mul_r, h0 k hk, f_zero_mul]

/-- r is how many of the m rows are no sums of others. -/
def IsRank (n m : Nat) (a : Nat → Nat → F) (r : Nat) : Prop :=
  ∃ b A B : Nat → Nat → F, Indep n r b ∧ (∀ i, i < r → ∀ j, j < n → b i j = fsm m (fun k => A i k * a k j)) ∧ ∀ i, i < m → ∀ j, j < n → a i j = fsm r (fun k => B i k * b k j)
/-- Out of out of. -/
theorem span_trans {n m s t : Nat} {u v x A B : Nat → Nat → F} (h1 : ∀ i, i < m → ∀ j, j < n → u i j = fsm s (fun k => A i k * v k j)) (h2 : ∀ i, i < s → ∀ j, j < n → v i j = fsm t (fun k => B i k * x k j)) :
    ∀ i, i < m → ∀ j, j < n → u i j = fsm t (fun k => fsm s (fun l => A i l * B l k) * x k j) := by
  intro i hi j hj
  rw [h1 i hi j hj]
  have e1 : fsm s (fun k => A i k * v k j) = fsm s (fun k => fsm t (fun l => A i k * B k l * x l j)) := sm_congr fun k hk => by
    rw [h2 k hk j hj, ← sm_mul]; exact sm_congr fun l _ => by rw [mul_assoc]
  rw [e1, sm_swap]
  exact sm_congr fun k _ => by rw [sm_mul_r]
theorem IsRank.unique {n m r s : Nat} {a : Nat → Nat → F} (h : IsRank n m a r) (k : IsRank n m a s) : r = s := by
  obtain ⟨b, A, B, hi, hA, hB⟩ := h
  obtain ⟨b', A', B', hi', hA', hB'⟩ := k
  have h1 := hi.span (span_trans hA hB')
  have h2 := hi'.span (span_trans hA' hB)
  omega
theorem IsRank.le_rows {n m r : Nat} {a : Nat → Nat → F} (h : IsRank n m a r) : r ≤ m := by
  obtain ⟨b, A, B, hi, hA, hB⟩ := h
  exact hi.span hA
theorem IsRank.le_cols {n m r : Nat} {a : Nat → Nat → F} (h : IsRank n m a r) : r ≤ n := by
  obtain ⟨b, A, B, hi, hA, hB⟩ := h
  exact hi.le
/-- Rows that are made of the others' are no more. -/
theorem IsRank.mono {n m m' r s : Nat} {a a' C : Nat → Nat → F} (h : IsRank n m a r) (k : IsRank n m' a' s) (hC : ∀ i, i < m → ∀ j, j < n → a i j = fsm m' (fun l => C i l * a' l j)) : r ≤ s := by
  obtain ⟨b, A, B, hi, hA, hB⟩ := h
  obtain ⟨b', A', B', hi', hA', hB'⟩ := k
  exact hi.span (span_trans (span_trans hA hC) hB')
/-- Rows that the others are mapped to are no more. -/
theorem IsRank.map {n n' m r s : Nat} {a x : Nat → Nat → F} (h : IsRank n' m (fun i j => fsm n (fun k => a i k * x k j)) r) (k : IsRank n m a s) : r ≤ s := by
  obtain ⟨b, A, B, hi, hA, hB⟩ := h
  obtain ⟨b', A', B', hi', hA', hB'⟩ := k
  have hs : ∀ i, i < m → ∀ j, j < n' → fsm n (fun k => a i k * x k j) = fsm s (fun l => B' i l * fsm n (fun k => b' l k * x k j)) := by
    intro i hi j hj
    have e1 : fsm n (fun k => a i k * x k j) = fsm n (fun k => fsm s (fun l => B' i l * b' l k * x k j)) := sm_congr fun k hk => by
      rw [hB' i hi k hk, ← sm_mul_r]
    rw [e1, sm_swap]
    exact sm_congr fun l _ => by rw [← sm_mul]; exact sm_congr fun k _ => by rw [mul_assoc]
  exact hi.span (span_trans hA hs)
/-- Rows that aren't tied are all of them. -/
theorem Indep.rank {n m : Nat} {a : Nat → Nat → F} (h : Indep n m a) : IsRank n m a m := by
  have hd : ∀ i, i < m → ∀ j, j < n → a i j = fsm m (fun k => (if k = i then (1 : F) else 0) * a k j) := by
    intro i hi j hj
    rw [sm_one hi (fun k _ hk => by rw [if_neg hk, f_zero_mul]), if_pos rfl, f_one_mul]
  exact ⟨a, fun i k => if k = i then 1 else 0, fun i k => if k = i then 1 else 0, h, hd, hd⟩
end
end Go.Proofs.YtibcjbelcplpjaaDoor
/-
  Plain mathematics of layer 7: bytes as a field, by a polynomial of eight powers: products bit by bit, inverses, powers of the generator. Nothing of the program here.
-/
namespace Go.Proofs.YtibcjbelcplpjaaDoor
set_option linter.unusedVariables false

theorem all8 {p : UInt8 → Prop} (h : ∀ n : Fin 256, p (UInt8.ofNat n.val)) (x : UInt8) : p x := by
  have := h ⟨x.toNat, x.toNat_lt⟩
  simpa using this

/-- Twice, by the polynomial (its lower eight bits). -/
def xt (p x : UInt8) : UInt8 := (x <<< 1) ^^^ (if x < 128 then 0 else p)
/-- The product of x and the first k bits of n. -/
def gfm (p : UInt8) : Nat → UInt8 → UInt8 → UInt8
  | 0, _, _ => 0
  | k + 1, x, n => (if n % 2 = 1 then x else 0) ^^^ gfm p k (xt p x) (n / 2)
theorem top8 (x : UInt8) : (x < 128) ↔ x.toNat.testBit 7 = false := by
  have hx := x.toNat_lt
  rw [UInt8.lt_iff_toNat_lt, Nat.testBit_eq_decide_div_mod_eq]
  simp
  omega
theorem top8_xor (x y : UInt8) : (x ^^^ y < 128) ↔ ((x < 128) ↔ (y < 128)) := by
  rw [top8, top8, top8, UInt8.toNat_xor, Nat.testBit_xor]
  cases x.toNat.testBit 7 <;> cases y.toNat.testBit 7 <;> simp
theorem x4 (a b c d : UInt8) : (a ^^^ b) ^^^ (c ^^^ d) = (a ^^^ c) ^^^ (b ^^^ d) := by
  rw [UInt8.xor_assoc, UInt8.xor_assoc, ← UInt8.xor_assoc b, UInt8.xor_comm b c, UInt8.xor_assoc c]
theorem xt_xor (p x y : UInt8) : xt p (x ^^^ y) = xt p x ^^^ xt p y := by
  unfold xt
  rw [UInt8.shiftLeft_xor, x4]
  congr 1
  have h := top8_xor x y
  by_cases hx : x < 128 <;> by_cases hy : y < 128 <;> simp [h, hx, hy]
/-- The two polynomials that there are: the field's, and the one of layer 5. -/
def Poly (p : UInt8) : Prop := p = 0x1d ∨ p = 0x1b
theorem xt_zero (p : UInt8) : xt p 0 = 0 := by unfold xt; simp
theorem gfm_xor (p : UInt8) : ∀ (k : Nat) (x y n : UInt8), gfm p k (x ^^^ y) n = gfm p k x n ^^^ gfm p k y n
  | 0, _, _, _ => by unfold gfm; simp
  | k + 1, x, y, n => by
    unfold gfm
    rw [xt_xor, gfm_xor p k, x4]
    congr 1
    split <;> simp
theorem gfm_zero (p : UInt8) : ∀ (k : Nat) (n : UInt8), gfm p k 0 n = 0
  | 0, _ => rfl
  | k + 1, n => by unfold gfm; rw [xt_zero, gfm_zero p k]; split <;> rfl
theorem gfm_xt (p : UInt8) : ∀ (k : Nat) (x n : UInt8), gfm p k (xt p x) n = xt p (gfm p k x n)
  | 0, _, _ => (xt_zero p).symm
  | k + 1, x, n => by
    unfold gfm
    rw [gfm_xt p k, xt_xor]
    congr 1
    split
    · rfl
    · exact (xt_zero p).symm
/-- The product. -/
def gmul (p x y : UInt8) : UInt8 := gfm p 8 x y
theorem gmul_xor (p x y n : UInt8) : gmul p (x ^^^ y) n = gmul p x n ^^^ gmul p y n := gfm_xor p 8 x y n
theorem gmul_zero_l (p n : UInt8) : gmul p 0 n = 0 := gfm_zero p 8 n
theorem gmul_gfm (p a : UInt8) : ∀ (k : Nat) (x n : UInt8), gmul p (gfm p k x n) a = gfm p k (gmul p x a) n
  | 0, _, _ => gmul_zero_l p a
  | k + 1, x, n => by
    show gmul p ((if n % 2 = 1 then x else 0) ^^^ gfm p k (xt p x) (n / 2)) a = (if n % 2 = 1 then gmul p x a else 0) ^^^ gfm p k (xt p (gmul p x a)) (n / 2)
    rw [gmul_xor, gmul_gfm p a k]
    congr 1
    · split
      · rfl
      · exact gmul_zero_l p a
    · show gfm p k (gfm p 8 (xt p x) a) (n / 2) = gfm p k (xt p (gfm p 8 x a)) (n / 2)
      rw [gfm_xt]
set_option maxRecDepth 100000 in
theorem one_1d : ∀ n : Fin 256, gmul 0x1d 1 (UInt8.ofNat n.val) = UInt8.ofNat n.val := by decide +kernel
set_option maxRecDepth 100000 in
theorem one_1b : ∀ n : Fin 256, gmul 0x1b 1 (UInt8.ofNat n.val) = UInt8.ofNat n.val := by decide +kernel
theorem gmul_one_l {p : UInt8} (hp : Poly p) (x : UInt8) : gmul p 1 x = x := by
  rcases hp with rfl | rfl
  · exact all8 (p := fun x => gmul 0x1d 1 x = x) one_1d x
  · exact all8 (p := fun x => gmul 0x1b 1 x = x) one_1b x
theorem gmul_comm {p : UInt8} (hp : Poly p) (x y : UInt8) : gmul p x y = gmul p y x := by
  have h := gmul_gfm p y 8 1 x
  rw [gmul_one_l hp] at h
  change gmul p (gmul p 1 x) y = gmul p y x at h
  rw [gmul_one_l hp] at h
  exact h
theorem gmul_swap (p x y z : UInt8) : gmul p (gmul p x y) z = gmul p (gmul p x z) y := gmul_gfm p z 8 x y
theorem gmul_assoc {p : UInt8} (hp : Poly p) (x y z : UInt8) : gmul p (gmul p x y) z = gmul p x (gmul p y z) := by
  rw [gmul_comm hp x (gmul p y z), gmul_swap p y z x, gmul_comm hp y x]
/-- The inverse: the 254th power. -/
def ginv (p x : UInt8) : UInt8 :=
  let a2 := gmul p x x; let a4 := gmul p a2 a2; let a8 := gmul p a4 a4; let a16 := gmul p a8 a8; let a32 := gmul p a16 a16; let a64 := gmul p a32 a32; let a128 := gmul p a64 a64
  gmul p a128 (gmul p a64 (gmul p a32 (gmul p a16 (gmul p a8 (gmul p a4 a2)))))
set_option maxRecDepth 100000 in
theorem inv_1d : ∀ n : Fin 256, UInt8.ofNat n.val ≠ 0 → gmul 0x1d (UInt8.ofNat n.val) (ginv 0x1d (UInt8.ofNat n.val)) = 1 := by decide +kernel
set_option maxRecDepth 100000 in
theorem inv_1b : ∀ n : Fin 256, UInt8.ofNat n.val ≠ 0 → gmul 0x1b (UInt8.ofNat n.val) (ginv 0x1b (UInt8.ofNat n.val)) = 1 := by decide +kernel
theorem gmul_inv {p : UInt8} (hp : Poly p) (x : UInt8) (h : x ≠ 0) : gmul p x (ginv p x) = 1 := by
  rcases hp with rfl | rfl
  · exact all8 (p := fun x => x ≠ 0 → gmul 0x1d x (ginv 0x1d x) = 1) inv_1d x h
  · exact all8 (p := fun x => x ≠ 0 → gmul 0x1b x (ginv 0x1b x) = 1) inv_1b x h

/-- A byte of the field. -/
structure GB where
  v : UInt8
instance : Fld GB where
  add x y := ⟨x.v ^^^ y.v⟩
  mul x y := ⟨gmul 0x1d x.v y.v⟩
  zero := ⟨0⟩
  one := ⟨1⟩
  inv x := ⟨ginv 0x1d x.v⟩
  add_comm x y := congrArg GB.mk (UInt8.xor_comm _ _)
  add_assoc x y z := congrArg GB.mk (UInt8.xor_assoc _ _ _)
  add_zero x := congrArg GB.mk (UInt8.xor_zero)
  add_self x := congrArg GB.mk (UInt8.xor_self)
  mul_comm x y := congrArg GB.mk (gmul_comm (.inl rfl) _ _)
  mul_assoc x y z := congrArg GB.mk (gmul_assoc (.inl rfl) _ _ _)
  mul_add x y z := congrArg GB.mk (by
    show gmul 0x1d x.v (y.v ^^^ z.v) = gmul 0x1d x.v y.v ^^^ gmul 0x1d x.v z.v
    rw [gmul_comm (.inl rfl), gmul_xor, gmul_comm (.inl rfl) y.v, gmul_comm (.inl rfl) z.v])
  mul_one x := congrArg GB.mk (by
    show gmul 0x1d x.v 1 = x.v
    rw [gmul_comm (.inl rfl), gmul_one_l (.inl rfl)])
  mul_inv x h := congrArg GB.mk (gmul_inv (.inl rfl) x.v (fun e => h (by cases x; exact congrArg GB.mk e)))
  one_ne h := by
    have := congrArg GB.v h
    exact absurd this (by decide)

/-- The powers of the generator. -/
def gexp : Nat → UInt8
  | 0 => 1
  | n + 1 => gmul 0x1d (gexp n) 2
theorem gexp_add (a b : Nat) : gmul 0x1d (gexp a) (gexp b) = gexp (a + b) := by
  induction b with
  | zero => show gmul 0x1d (gexp a) 1 = gexp a; rw [gmul_comm (.inl rfl), gmul_one_l (.inl rfl)]
  | succ b ih =>
    show gmul 0x1d (gexp a) (gmul 0x1d (gexp b) 2) = gmul 0x1d (gexp (a + b)) 2
    rw [← gmul_assoc (.inl rfl), ih]
def powers : Nat → UInt8 → List UInt8
  | 0, _ => []
  | n + 1, x => x :: powers n (gmul 0x1d x 2)
theorem powers_get : ∀ (n k j : Nat), j < n → (powers n (gexp k))[j]? = some (gexp (k + j))
  | 0, _, _, h => by omega
  | n + 1, k, 0, _ => rfl
  | n + 1, k, j + 1, h => by
    show (powers n (gexp (k + 1)))[j]? = _
    rw [powers_get n (k + 1) j (by omega)]
    congr 2; omega
set_option maxRecDepth 100000 in
theorem gexp_255 : gexp 255 = 1 := by decide +kernel
theorem gexp_mod (n : Nat) : gexp n = gexp (n % 255) := by
  have h : ∀ q r, gexp (255 * q + r) = gexp r := by
    intro q r
    induction q with
    | zero => simp
    | succ q ih =>
      rw [show 255 * (q + 1) + r = 255 + (255 * q + r) by omega, ← gexp_add, gexp_255, gmul_one_l (.inl rfl), ih]
  have := h (n / 255) (n % 255)
  rwa [Nat.div_add_mod] at this
/-- The powers, written out; which power a byte is. -/
def expTab : List UInt8 := [1, 2, 4, 8, 16, 32, 64, 128, 29, 58, 116, 232, 205, 135, 19, 38, 76, 152, 45, 90, 180, 117, 234, 201, 143, 3, 6, 12, 24, 48, 96, 192, 157, 39, 78, 156, 37, 74, 148, 53, 106, 212, 181, 119, 238, 193, 159, 35, 70, 140, 5, 10, 20, 40, 80, 160, 93, 186, 105, 210, 185, 111, 222, 161, 95, 190, 97, 194, 153, 47, 94, 188, 101, 202, 137, 15, 30, 60, 120, 240, 253, 231, 211, 187, 107, 214, 177, 127, 254, 225, 223, 163, 91, 182, 113, 226, 217, 175, 67, 134, 17, 34, 68, 136, 13, 26, 52, 104, 208, 189, 103, 206, 129, 31, 62, 124, 248, 237, 199, 147, 59, 118, 236, 197, 151, 51, 102, 204, 133, 23, 46, 92, 184, 109, 218, 169, 79, 158, 33, 66, 132, 21, 42, 84, 168, 77, 154, 41, 82, 164, 85, 170, 73, 146, 57, 114, 228, 213, 183, 115, 230, 209, 191, 99, 198, 145, 63, 126, 252, 229, 215, 179, 123, 246, 241, 255, 227, 219, 171, 75, 150, 49, 98, 196, 149, 55, 110, 220, 165, 87, 174, 65, 130, 25, 50, 100, 200, 141, 7, 14, 28, 56, 112, 224, 221, 167, 83, 166, 81, 162, 89, 178, 121, 242, 249, 239, 195, 155, 43, 86, 172, 69, 138, 9, 18, 36, 72, 144, 61, 122, 244, 245, 247, 243, 251, 235, 203, 139, 11, 22, 44, 88, 176, 125, 250, 233, 207, 131, 27, 54, 108, 216, 173, 71, 142]
def logTab : List Nat := [0, 0, 1, 25, 2, 50, 26, 198, 3, 223, 51, 238, 27, 104, 199, 75, 4, 100, 224, 14, 52, 141, 239, 129, 28, 193, 105, 248, 200, 8, 76, 113, 5, 138, 101, 47, 225, 36, 15, 33, 53, 147, 142, 218, 240, 18, 130, 69, 29, 181, 194, 125, 106, 39, 249, 185, 201, 154, 9, 120, 77, 228, 114, 166, 6, 191, 139, 98, 102, 221, 48, 253, 226, 152, 37, 179, 16, 145, 34, 136, 54, 208, 148, 206, 143, 150, 219, 189, 241, 210, 19, 92, 131, 56, 70, 64, 30, 66, 182, 163, 195, 72, 126, 110, 107, 58, 40, 84, 250, 133, 186, 61, 202, 94, 155, 159, 10, 21, 121, 43, 78, 212, 229, 172, 115, 243, 167, 87, 7, 112, 192, 247, 140, 128, 99, 13, 103, 74, 222, 237, 49, 197, 254, 24, 227, 165, 153, 119, 38, 184, 180, 124, 17, 68, 146, 217, 35, 32, 137, 46, 55, 63, 209, 91, 149, 188, 207, 205, 144, 135, 151, 178, 220, 252, 190, 97, 242, 86, 211, 171, 20, 42, 93, 158, 132, 60, 57, 83, 71, 109, 65, 162, 31, 45, 67, 216, 183, 123, 164, 118, 196, 23, 73, 236, 127, 12, 111, 246, 108, 161, 59, 82, 41, 157, 85, 170, 251, 96, 134, 177, 187, 204, 62, 90, 203, 89, 95, 176, 156, 169, 160, 81, 11, 245, 22, 235, 122, 117, 44, 215, 79, 174, 213, 233, 230, 231, 173, 232, 116, 214, 244, 234, 168, 80, 88, 175]
def glog (x : UInt8) : Nat := logTab.getD x.toNat 0
set_option maxRecDepth 100000 in
theorem powers_tab : powers 255 1 = expTab := by decide +kernel
theorem expTab_get (j : Nat) (h : j < 255) : expTab[j]? = some (gexp j) := by
  have := powers_get 255 0 j h
  rw [Nat.zero_add] at this
  rw [← powers_tab]
  exact this
set_option maxRecDepth 100000 in
theorem glog_all : ∀ n : Fin 256, UInt8.ofNat n.val ≠ 0 → glog (UInt8.ofNat n.val) < 255 ∧ expTab[glog (UInt8.ofNat n.val)]? = some (UInt8.ofNat n.val) := by decide +kernel
theorem gexp_log (x : UInt8) (h : x ≠ 0) : glog x < 255 ∧ gexp (glog x) = x := by
  have := all8 (p := fun x => x ≠ 0 → glog x < 255 ∧ expTab[glog x]? = some x) glog_all x h
  refine ⟨this.1, ?_⟩
  exact Option.some.inj ((expTab_get (glog x) this.1).symm.trans this.2)
theorem gmul_ne {p x y : UInt8} (hp : Poly p) (hx : x ≠ 0) (hy : y ≠ 0) : gmul p x y ≠ 0 := by
  intro h
  have h1 := gmul_inv hp x hx
  have h2 : gmul p (gmul p x y) (ginv p x) = y := by
    rw [gmul_swap, h1, gmul_one_l hp]
  rw [h, gmul_zero_l] at h2
  exact hy h2.symm
theorem gexp_ne (n : Nat) : gexp n ≠ 0 := by
  induction n with
  | zero => decide
  | succ n ih => exact gmul_ne (.inl rfl) ih (by decide)
set_option maxRecDepth 100000 in
theorem glog_exp_all : ∀ n : Fin 255, (expTab[n.val]?).map glog = some n.val := by decide +kernel
theorem glog_exp (n : Nat) (h : n < 255) : glog (gexp n) = n := by
  have h1 := glog_exp_all ⟨n, h⟩
  rw [show ((⟨n, h⟩ : Fin 255).val) = n from rfl, expTab_get n h] at h1
  exact Option.some.inj h1
end Go.Proofs.YtibcjbelcplpjaaDoor
/-
  Plain mathematics of layer 5: the table, a key's words, a block's rounds; by one key unlike blocks become unlike ones. Nothing of the program here.
-/
namespace Go.Proofs.YtibcjbelcplpjaaDoor
set_option linter.unusedVariables false

/-- The table, written out, and the one that takes it back. -/
@[irreducible] def sbox : List UInt8 := [99, 124, 119, 123, 242, 107, 111, 197, 48, 1, 103, 43, 254, 215, 171, 118, 202, 130, 201, 125, 250, 89, 71, 240, 173, 212, 162, 175, 156, 164, 114, 192, 183, 253, 147, 38, 54, 63, 247, 204, 52, 165, 229, 241, 113, 216, 49, 21, 4, 199, 35, 195, 24, 150, 5, 154, 7, 18, 128, 226, 235, 39, 178, 117, 9, 131, 44, 26, 27, 110, 90, 160, 82, 59, 214, 179, 41, 227, 47, 132, 83, 209, 0, 237, 32, 252, 177, 91, 106, 203, 190, 57, 74, 76, 88, 207, 208, 239, 170, 251, 67, 77, 51, 133, 69, 249, 2, 127, 80, 60, 159, 168, 81, 163, 64, 143, 146, 157, 56, 245, 188, 182, 218, 33, 16, 255, 243, 210, 205, 12, 19, 236, 95, 151, 68, 23, 196, 167, 126, 61, 100, 93, 25, 115, 96, 129, 79, 220, 34, 42, 144, 136, 70, 238, 184, 20, 222, 94, 11, 219, 224, 50, 58, 10, 73, 6, 36, 92, 194, 211, 172, 98, 145, 149, 228, 121, 231, 200, 55, 109, 141, 213, 78, 169, 108, 86, 244, 234, 101, 122, 174, 8, 186, 120, 37, 46, 28, 166, 180, 198, 232, 221, 116, 31, 75, 189, 139, 138, 112, 62, 181, 102, 72, 3, 246, 14, 97, 53, 87, 185, 134, 193, 29, 158, 225, 248, 152, 17, 105, 217, 142, 148, 155, 30, 135, 233, 206, 85, 40, 223, 140, 161, 137, 13, 191, 230, 66, 104, 65, 153, 45, 15, 176, 84, 187, 22]
def sboxBack : List UInt8 := [82, 9, 106, 213, 48, 54, 165, 56, 191, 64, 163, 158, 129, 243, 215, 251, 124, 227, 57, 130, 155, 47, 255, 135, 52, 142, 67, 68, 196, 222, 233, 203, 84, 123, 148, 50, 166, 194, 35, 61, 238, 76, 149, 11, 66, 250, 195, 78, 8, 46, 161, 102, 40, 217, 36, 178, 118, 91, 162, 73, 109, 139, 209, 37, 114, 248, 246, 100, 134, 104, 152, 22, 212, 164, 92, 204, 93, 101, 182, 146, 108, 112, 72, 80, 253, 237, 185, 218, 94, 21, 70, 87, 167, 141, 157, 132, 144, 216, 171, 0, 140, 188, 211, 10, 247, 228, 88, 5, 184, 179, 69, 6, 208, 44, 30, 143, 202, 63, 15, 2, 193, 175, 189, 3, 1, 19, 138, 107, 58, 145, 17, 65, 79, 103, 220, 234, 151, 242, 207, 206, 240, 180, 230, 115, 150, 172, 116, 34, 231, 173, 53, 133, 226, 249, 55, 232, 28, 117, 223, 110, 71, 241, 26, 113, 29, 41, 197, 137, 111, 183, 98, 14, 170, 24, 190, 27, 252, 86, 62, 75, 198, 210, 121, 32, 154, 219, 192, 254, 120, 205, 90, 244, 31, 221, 168, 51, 136, 7, 199, 49, 177, 18, 16, 89, 39, 128, 236, 95, 96, 81, 127, 169, 25, 181, 74, 13, 45, 229, 122, 159, 147, 201, 156, 239, 160, 224, 59, 77, 174, 42, 245, 176, 200, 235, 187, 60, 131, 83, 153, 97, 23, 43, 4, 126, 186, 119, 214, 38, 225, 105, 20, 99, 85, 33, 12, 125]
def sb (x : UInt8) : UInt8 := sbox.getD x.toNat 0
/-- The bits of a byte's inverse, and what the table makes of them. -/
def subBit (b i : Nat) : Nat := ((b >>> i) ^^^ (b >>> ((i + 4) % 8)) ^^^ (b >>> ((i + 5) % 8)) ^^^ (b >>> ((i + 6) % 8)) ^^^ (b >>> ((i + 7) % 8)) ^^^ (99 >>> i)) % 2
def subOf (b : Nat) : Nat → Nat
  | 0 => 0
  | k + 1 => subOf b k + subBit b k <<< k
set_option maxRecDepth 100000 in
theorem sb_all : ∀ n : Fin 256, (sb (UInt8.ofNat n.val)).toNat = subOf (ginv 0x1b (UInt8.ofNat n.val)).toNat 8 := by decide +kernel
theorem sb_eq (x : UInt8) : (sb x).toNat = subOf (ginv 0x1b x).toNat 8 := all8 (p := fun x => (sb x).toNat = subOf (ginv 0x1b x).toNat 8) sb_all x
set_option maxRecDepth 100000 in
theorem sb_back_all : ∀ n : Fin 256, sboxBack.getD (sb (UInt8.ofNat n.val)).toNat 0 = UInt8.ofNat n.val := by decide +kernel
theorem sb_inj {x y : UInt8} (h : sb x = sb y) : x = y := by
  have h1 := all8 (p := fun x => sboxBack.getD (sb x).toNat 0 = x) sb_back_all x
  have h2 := all8 (p := fun x => sboxBack.getD (sb x).toNat 0 = x) sb_back_all y
  rw [← h1, ← h2, h]

/-- Four numbers of a column, mixed; and back. -/
def mx4 (a b c d : UInt8) : UInt8 := gmul 0x1b a 2 ^^^ gmul 0x1b b 3 ^^^ c ^^^ d
def mxb (a b c d : UInt8) : UInt8 := gmul 0x1b 14 a ^^^ gmul 0x1b 11 b ^^^ gmul 0x1b 13 c ^^^ gmul 0x1b 9 d
theorem mul_mx (k a b c d : UInt8) : gmul 0x1b k (mx4 a b c d) = gmul 0x1b (gmul 0x1b k 2) a ^^^ gmul 0x1b (gmul 0x1b k 3) b ^^^ gmul 0x1b k c ^^^ gmul 0x1b k d := by
  have hp : Poly 0x1b := .inr rfl
  unfold mx4
  have hx : ∀ u v, gmul 0x1b k (u ^^^ v) = gmul 0x1b k u ^^^ gmul 0x1b k v := fun u v => by
    rw [gmul_comm hp, gmul_xor, gmul_comm hp u, gmul_comm hp v]
  rw [hx, hx, hx, gmul_comm hp a 2, gmul_comm hp b 3, gmul_assoc hp, gmul_assoc hp]
theorem mxb_mx (a b c d : UInt8) : mxb (mx4 a b c d) (mx4 b c d a) (mx4 c d a b) (mx4 d a b c) = a := by
  have hp : Poly 0x1b := .inr rfl
  unfold mxb
  rw [mul_mx, mul_mx, mul_mx, mul_mx]
  have e : ∀ k l m n x : UInt8, gmul 0x1b k x ^^^ gmul 0x1b l x ^^^ gmul 0x1b m x ^^^ gmul 0x1b n x = gmul 0x1b (k ^^^ l ^^^ m ^^^ n) x := fun k l m n x => by
    rw [gmul_xor, gmul_xor, gmul_xor]
  have ea := e (gmul 0x1b 14 2) 11 13 (gmul 0x1b 9 3) a
  have eb := e (gmul 0x1b 14 3) (gmul 0x1b 11 2) 13 9 b
  have ec := e 14 (gmul 0x1b 11 3) (gmul 0x1b 13 2) 9 c
  have ed := e 14 11 (gmul 0x1b 13 3) (gmul 0x1b 9 2) d
  rw [show gmul 0x1b 14 2 ^^^ 11 ^^^ 13 ^^^ gmul 0x1b 9 3 = 1 by decide, gmul_one_l hp] at ea
  rw [show gmul 0x1b 14 3 ^^^ gmul 0x1b 11 2 ^^^ 13 ^^^ 9 = 0 by decide, gmul_zero_l] at eb
  rw [show 14 ^^^ gmul 0x1b 11 3 ^^^ gmul 0x1b 13 2 ^^^ 9 = 0 by decide, gmul_zero_l] at ec
  rw [show 14 ^^^ 11 ^^^ gmul 0x1b 13 3 ^^^ gmul 0x1b 9 2 = 0 by decide, gmul_zero_l] at ed
  have hs : ∀ a1 b1 c1 d1 b2 c2 d2 a2 c3 d3 a3 b3 d4 a4 b4 c4 : UInt8, (a1 ^^^ b1 ^^^ c1 ^^^ d1) ^^^ (b2 ^^^ c2 ^^^ d2 ^^^ a2) ^^^ (c3 ^^^ d3 ^^^ a3 ^^^ b3) ^^^ (d4 ^^^ a4 ^^^ b4 ^^^ c4) = (a1 ^^^ a2 ^^^ a3 ^^^ a4) ^^^ (b1 ^^^ b2 ^^^ b3 ^^^ b4) ^^^ (c1 ^^^ c2 ^^^ c3 ^^^ c4) ^^^ (d1 ^^^ d2 ^^^ d3 ^^^ d4) := by
    intros
    ac_rfl
  rw [hs, ea, eb, ec, ed]
  simp

/-- A list of n, made place by place. -/
def tab (n : Nat) (f : Nat → UInt8) : List UInt8 := (List.range n).map f
theorem tab_length (n : Nat) (f : Nat → UInt8) : (tab n f).length = n := by simp [tab]
theorem tab_get {n i : Nat} (f : Nat → UInt8) (h : i < n) : (tab n f).getD i 0 = f i := by
  rw [List.getD_eq_getElem?_getD]; simp [tab, h]
theorem tab_ext {n : Nat} {l : List UInt8} (hl : l.length = n) : l = tab n (fun i => l.getD i 0) := by
  apply List.ext_getElem
  · rw [tab_length, hl]
  · intro i h1 h2
    simp [tab, List.getD_eq_getElem?_getD, List.getElem?_eq_getElem h1]
theorem tab_inj {n : Nat} {f g : Nat → UInt8} (h : tab n f = tab n g) : ∀ i, i < n → f i = g i := fun i hi => by rw [← tab_get f hi, ← tab_get g hi, h]
theorem tab_congr {n : Nat} {f g : Nat → UInt8} (h : ∀ i, i < n → f i = g i) : tab n f = tab n g := by
  unfold tab
  exact List.map_congr_left fun i hi => h i (List.mem_range.1 hi)

/-- Where a round takes its bytes from. -/
def shAt (i : Nat) : Nat := 4 * ((i / 4 + i % 4) % 4) + i % 4
def shSub (s : List UInt8) : List UInt8 := tab 16 (fun i => sb (s.getD (shAt i) 0))
def mixAll (y : List UInt8) : List UInt8 := tab 16 (fun i => mx4 (y.getD i 0) (y.getD (4 * (i / 4) + (i % 4 + 1) % 4) 0) (y.getD (4 * (i / 4) + (i % 4 + 2) % 4) 0) (y.getD (4 * (i / 4) + (i % 4 + 3) % 4) 0))
def addKey (w : List UInt8) (r : Nat) (s : List UInt8) : List UInt8 := tab 16 (fun i => s.getD i 0 ^^^ w.getD (16 * r + i) 0)
def aesRound (w : List UInt8) (r : Nat) (s : List UInt8) : List UInt8 := addKey w r (if r < 14 then mixAll (shSub s) else shSub s)
def aesRounds (w : List UInt8) : Nat → List UInt8 → List UInt8
  | 0, s => addKey w 0 s
  | r + 1, s => aesRound w (r + 1) (aesRounds w r s)
@[irreducible] def aesBlock (w x : List UInt8) : List UInt8 := aesRounds w 14 x
theorem aesBlock_eq (w x : List UInt8) : aesBlock w x = aesRounds w 14 x := by unfold aesBlock; rfl
theorem aesRounds_length (w : List UInt8) : ∀ r s, (aesRounds w r s).length = 16
  | 0, s => tab_length _ _
  | r + 1, s => tab_length _ _
theorem aesBlock_length (w x : List UInt8) : (aesBlock w x).length = 16 := by rw [aesBlock_eq]; exact aesRounds_length w 14 x

theorem xor_inj {a b c : UInt8} (h : a ^^^ c = b ^^^ c) : a = b := by
  have := congrArg (· ^^^ c) h
  simpa [UInt8.xor_assoc] using this
theorem addKey_inj {w : List UInt8} {r : Nat} {s t : List UInt8} (hs : s.length = 16) (ht : t.length = 16) (h : addKey w r s = addKey w r t) : s = t := by
  rw [tab_ext hs, tab_ext ht]
  exact tab_congr fun i hi => xor_inj (tab_inj h i hi)
theorem shAt_onto (i : Nat) (h : i < 16) : ∃ k, k < 16 ∧ shAt k = i := by
  have h2 : ∀ i : Fin 16, ∃ k : Fin 16, shAt k.val = i.val := by decide +kernel
  obtain ⟨k, hk⟩ := h2 ⟨i, h⟩
  exact ⟨k.val, k.isLt, hk⟩
theorem shSub_inj {s t : List UInt8} (hs : s.length = 16) (ht : t.length = 16) (h : shSub s = shSub t) : s = t := by
  rw [tab_ext hs, tab_ext ht]
  refine tab_congr fun i hi => ?_
  obtain ⟨k, hk, rfl⟩ := shAt_onto i hi
  exact sb_inj (tab_inj h k hk)
theorem mix_col {s t : List UInt8} (h : ∀ i, i < 16 → mx4 (s.getD i 0) (s.getD (4 * (i / 4) + (i % 4 + 1) % 4) 0) (s.getD (4 * (i / 4) + (i % 4 + 2) % 4) 0) (s.getD (4 * (i / 4) + (i % 4 + 3) % 4) 0) = mx4 (t.getD i 0) (t.getD (4 * (i / 4) + (i % 4 + 1) % 4) 0) (t.getD (4 * (i / 4) + (i % 4 + 2) % 4) 0) (t.getD (4 * (i / 4) + (i % 4 + 3) % 4) 0))
    (i : Nat) (hi : i < 16) : s.getD i 0 = t.getD i 0 := by
  obtain ⟨c, k, hc, hk, rfl⟩ : ∃ c k, c < 4 ∧ k < 4 ∧ i = 4 * c + k := ⟨i / 4, i % 4, by omega, by omega, by omega⟩
  have at_ : ∀ j, j < 4 → (4 * c + j) / 4 = c ∧ (4 * c + j) % 4 = j := fun j hj => ⟨by omega, by omega⟩
  have h0 := h (4 * c + k) (by omega)
  have h1 := h (4 * c + (k + 1) % 4) (by omega)
  have h2 := h (4 * c + (k + 2) % 4) (by omega)
  have h3 := h (4 * c + (k + 3) % 4) (by omega)
  rw [(at_ k hk).1, (at_ k hk).2] at h0
  rw [(at_ ((k + 1) % 4) (by omega)).1, (at_ ((k + 1) % 4) (by omega)).2, show ((k + 1) % 4 + 1) % 4 = (k + 2) % 4 by omega, show ((k + 1) % 4 + 2) % 4 = (k + 3) % 4 by omega, show ((k + 1) % 4 + 3) % 4 = k by omega] at h1
  rw [(at_ ((k + 2) % 4) (by omega)).1, (at_ ((k + 2) % 4) (by omega)).2, show ((k + 2) % 4 + 1) % 4 = (k + 3) % 4 by omega, show ((k + 2) % 4 + 2) % 4 = k by omega, show ((k + 2) % 4 + 3) % 4 = (k + 1) % 4 by omega] at h2
  rw [(at_ ((k + 3) % 4) (by omega)).1, (at_ ((k + 3) % 4) (by omega)).2, show ((k + 3) % 4 + 1) % 4 = k by omega, show ((k + 3) % 4 + 2) % 4 = (k + 1) % 4 by omega, show ((k + 3) % 4 + 3) % 4 = (k + 2) % 4 by omega] at h3
  rw [← mxb_mx (s.getD (4 * c + k) 0) (s.getD (4 * c + (k + 1) % 4) 0) (s.getD (4 * c + (k + 2) % 4) 0) (s.getD (4 * c + (k + 3) % 4) 0), h0, h1, h2, h3, mxb_mx]
theorem mixAll_inj {s t : List UInt8} (hs : s.length = 16) (ht : t.length = 16) (h : mixAll s = mixAll t) : s = t := by
  rw [tab_ext hs, tab_ext ht]
  exact tab_congr fun i hi => mix_col (tab_inj h) i hi
theorem aesRound_inj {w : List UInt8} {r : Nat} {s t : List UInt8} (hs : s.length = 16) (ht : t.length = 16) (h : aesRound w r s = aesRound w r t) : s = t := by
  unfold aesRound at h
  by_cases hr : r < 14
  · rw [if_pos hr, if_pos hr] at h
    exact shSub_inj hs ht (mixAll_inj (tab_length _ _) (tab_length _ _) (addKey_inj (tab_length _ _) (tab_length _ _) h))
  · rw [if_neg hr, if_neg hr] at h
    exact shSub_inj hs ht (addKey_inj (tab_length _ _) (tab_length _ _) h)
theorem aesRounds_inj {w : List UInt8} {s t : List UInt8} (hs : s.length = 16) (ht : t.length = 16) : ∀ r, aesRounds w r s = aesRounds w r t → s = t
  | 0, h => addKey_inj hs ht h
  | r + 1, h => aesRounds_inj hs ht r (aesRound_inj (aesRounds_length _ _ _) (aesRounds_length _ _ _) h)
theorem aesBlock_inj {w x y : List UInt8} (hx : x.length = 16) (hy : y.length = 16) (h : aesBlock w x = aesBlock w y) : x = y := by
  rw [aesBlock_eq, aesBlock_eq] at h
  exact aesRounds_inj hx hy 14 h

/-- A key's words, four bytes each, one behind the other: the first n of them. -/
def aesWord (rc : UInt8) (w : List UInt8) (i : Nat) : List UInt8 :=
  let x := fun k => w.getD (4 * i - 4 + k) 0
  let y := fun k => if i % 8 = 0 then (sb (x ((k + 1) % 4)) ^^^ (if k = 0 then rc else 0)) else if i % 8 = 4 then sb (x k) else x k
  tab 4 (fun k => w.getD (4 * i - 32 + k) 0 ^^^ y k)
def aesRc : Nat → UInt8
  | 0 => 1
  | n + 1 => gmul 0x1b (aesRc n) 2
def aesWordsN (key : List UInt8) : Nat → List UInt8
  | 0 => key
  | n + 1 => aesWordsN key n ++ aesWord (aesRc ((8 + n) / 8 - 1)) (aesWordsN key n) (8 + n)
@[irreducible] def aesWords (key : List UInt8) : List UInt8 := aesWordsN key 52
theorem aesWords_eq (key : List UInt8) : aesWords key = aesWordsN key 52 := by unfold aesWords; rfl
theorem aesWordsN_length {key : List UInt8} (h : key.length = 32) : ∀ n, (aesWordsN key n).length = 32 + 4 * n
  | 0 => h
  | n + 1 => by
    unfold aesWordsN
    rw [List.length_append, aesWordsN_length h n]
    unfold aesWord
    rw [tab_length]; omega
theorem aesWords_length {key : List UInt8} (h : key.length = 32) : (aesWords key).length = 240 := by rw [aesWords_eq, aesWordsN_length h]
set_option maxRecDepth 100000 in
theorem aes_known : aesBlock (aesWords (tab 32 UInt8.ofNat)) (tab 16 (fun i => UInt8.ofNat (17 * i))) = [0x8e, 0xa2, 0xb7, 0xca, 0x51, 0x67, 0x45, 0xbf, 0xea, 0xfc, 0x49, 0x90, 0x4b, 0x49, 0x60, 0x89] := by
  rw [aesBlock_eq, aesWords_eq]
  decide +kernel
end Go.Proofs.YtibcjbelcplpjaaDoor
/-
  Plain mathematics of layer 6: a number of sixteen bytes and another one; the stream of a key and a beginning; what is hidden. Nothing of the program here.
-/
namespace Go.Proofs.YtibcjbelcplpjaaDoor
set_option linter.unusedVariables false

theorem num_be_mod : ∀ n x, num (be n x) = x % 256 ^ n := fun n x => by
  have h : be n x = be n (x % 256 ^ n) := by
    induction n generalizing x with
    | zero => rfl
    | succ n ih =>
      unfold be
      rw [ih (x / 256), ih (x % 256 ^ (n + 1) / 256)]
      have e1 : x % 256 ^ (n + 1) / 256 % 256 ^ n = x / 256 % 256 ^ n := by
        rw [Nat.pow_succ', Nat.mod_mul_right_div_self, Nat.mod_mod]
      have e2 : UInt8.ofNat (x % 256 ^ (n + 1)) = UInt8.ofNat x := by
        apply UInt8.toNat_inj.1
        rw [UInt8.toNat_ofNat', UInt8.toNat_ofNat', Nat.pow_succ']
        exact Nat.mod_mul_right_mod x 256 (256 ^ n)
      rw [e1, e2]
  rw [h]
  exact num_be n _ (Nat.mod_lt _ (Nat.pow_pos (by omega)))
theorem be_modp (n x : Nat) : be n (x % 256 ^ n) = be n x := by
  have h1 := be_num (be n x)
  rw [be_length, num_be_mod] at h1
  exact h1

/-- A number of sixteen bytes, and n. -/
@[irreducible] def cnt (l : List UInt8) (n : Nat) : List UInt8 := be 16 (num l + n)
theorem cnt_eq (l : List UInt8) (n : Nat) : cnt l n = be 16 (num l + n) := by unfold cnt; rfl
theorem cnt_length (l : List UInt8) (n : Nat) : (cnt l n).length = 16 := by rw [cnt_eq, be_length]
theorem cnt_add (l : List UInt8) (a b : Nat) : cnt (cnt l a) b = cnt l (a + b) := by
  rw [cnt_eq, cnt_eq, cnt_eq, num_be_mod, ← be_modp, Nat.mod_add_mod, be_modp, Nat.add_assoc]
theorem cnt_zero {l : List UInt8} (h : l.length = 16) : cnt l 0 = l := by
  have := be_num l
  rw [h] at this
  rw [cnt_eq, Nat.add_zero, this]

/-- The stream's byte at i. -/
@[irreducible] def ksAt (w from_ : List UInt8) (i : Nat) : UInt8 := (aesBlock w (cnt from_ (i / 16))).getD (i % 16) 0
theorem ksAt_eq (w from_ : List UInt8) (i : Nat) : ksAt w from_ i = (aesBlock w (cnt from_ (i / 16))).getD (i % 16) 0 := by unfold ksAt; rfl
theorem ksAt_behind (w from_ : List UInt8) (m i : Nat) : ksAt w (cnt from_ m) i = ksAt w from_ (16 * m + i) := by
  rw [ksAt_eq, ksAt_eq, cnt_add, Nat.mul_add_div (by omega), Nat.mul_add_mod]
/-- A text, hidden. -/
@[irreducible] def hide (w from_ text : List UInt8) : List UInt8 := tab text.length (fun i => text.getD i 0 ^^^ ksAt w from_ i)
theorem hide_eq (w from_ text : List UInt8) : hide w from_ text = tab text.length (fun i => text.getD i 0 ^^^ ksAt w from_ i) := by unfold hide; rfl
theorem hide_length (w from_ text : List UInt8) : (hide w from_ text).length = text.length := by rw [hide_eq, tab_length]
theorem hide_getD (w from_ text : List UInt8) {i : Nat} (h : i < text.length) : (hide w from_ text).getD i 0 = text.getD i 0 ^^^ ksAt w from_ i := by rw [hide_eq, tab_get _ h]
theorem list_ext_getD {a b : List UInt8} (hl : a.length = b.length) (h : ∀ i, i < a.length → a.getD i 0 = b.getD i 0) : a = b := by
  rw [tab_ext (n := a.length) rfl, tab_ext (l := b) (n := a.length) hl.symm]
  exact tab_congr h
theorem hide_hide (w from_ text : List UInt8) : hide w from_ (hide w from_ text) = text := by
  refine list_ext_getD (by rw [hide_length, hide_length]) fun i hi => ?_
  rw [hide_length, hide_length] at hi
  rw [hide_getD _ _ _ (by rw [hide_length]; exact hi), hide_getD _ _ _ hi, UInt8.xor_assoc, UInt8.xor_self, UInt8.xor_zero]
theorem getD_take {l : List UInt8} {n i : Nat} (h : i < n) : (l.take n).getD i 0 = l.getD i 0 := by
  rw [List.getD_eq_getElem?_getD, List.getD_eq_getElem?_getD, List.getElem?_take, if_pos h]
theorem getD_drop (l : List UInt8) (n i : Nat) : (l.drop n).getD i 0 = l.getD (n + i) 0 := by
  rw [List.getD_eq_getElem?_getD, List.getD_eq_getElem?_getD, List.getElem?_drop]
theorem hide_take (w from_ text : List UInt8) (n : Nat) : hide w from_ (text.take n) = (hide w from_ text).take n := by
  refine list_ext_getD (by rw [hide_length, List.length_take, List.length_take, hide_length]) fun i hi => ?_
  rw [hide_length, List.length_take] at hi
  rw [hide_getD _ _ _ (by rw [List.length_take]; exact hi), getD_take (by omega), getD_take (by omega), hide_getD _ _ _ (by omega)]
theorem hide_drop (w from_ text : List UInt8) (m : Nat) : hide w (cnt from_ m) (text.drop (16 * m)) = (hide w from_ text).drop (16 * m) := by
  refine list_ext_getD (by rw [hide_length, List.length_drop, List.length_drop, hide_length]) fun i hi => ?_
  rw [hide_length, List.length_drop] at hi
  rw [hide_getD _ _ _ (by rw [List.length_drop]; exact hi), getD_drop, getD_drop, hide_getD _ _ _ (by omega), ksAt_behind]
theorem hide_step (w from_ text : List UInt8) (k : Nat) (h : k < text.length) : hide w from_ (text.take (k + 1)) = hide w from_ (text.take k) ++ [text.getD k 0 ^^^ ksAt w from_ k] := by
  rw [hide_take, hide_take, List.take_add_one, List.getElem?_eq_getElem (by rw [hide_length]; exact h)]
  have := hide_getD w from_ text h
  rw [List.getD_eq_getElem?_getD, List.getElem?_eq_getElem (by rw [hide_length]; exact h)] at this
  simp only [Option.getD_some] at this
  rw [this]; rfl
/-- What is turned of a text is turned of what hides it. -/
theorem hide_xor (w from_ a b : List UInt8) (h : b.length = a.length) {i : Nat} (hi : i < a.length) :
    (hide w from_ a).getD i 0 ^^^ b.getD i 0 = (hide w from_ (tab a.length (fun j => a.getD j 0 ^^^ b.getD j 0))).getD i 0 := by
  rw [hide_getD _ _ _ hi, hide_getD _ _ _ (by rw [tab_length]; exact hi), tab_get _ hi, UInt8.xor_assoc, UInt8.xor_assoc, UInt8.xor_comm (ksAt w from_ i)]

/-! ### counting byte by byte, the lowest first -/
theorem num_append (a : List UInt8) : ∀ b : List UInt8, num (a ++ b) = num a * 256 ^ b.length + num b := fun b => by
  refine snoc_ind (P := fun b => num (a ++ b) = num a * 256 ^ b.length + num b) (by simp [num]) (fun l x ih => ?_) b
  show num (a ++ (l ++ [x])) = num a * 256 ^ (l ++ [x]).length + num (l ++ [x])
  rw [← List.append_assoc, num_snoc, num_snoc, ih, List.length_append, List.length_singleton, Nat.pow_succ, Nat.add_mul, Nat.mul_assoc, Nat.add_assoc]
theorem be_consp : ∀ (k x : Nat), be (k + 1) x = UInt8.ofNat (x / 256 ^ k) :: be k x
  | 0, x => by simp [be]
  | k + 1, x => by
    rw [be, be_consp k (x / 256), be, Nat.div_div_eq_div_mul, ← Nat.pow_succ']
    rfl
/-- What is carried over behind the lowest k bytes. -/
def cntC (l : List UInt8) (n k : Nat) : Nat := (num (l.drop (16 - k)) + n % 256 ^ k) / 256 ^ k
theorem cntC_zero {l : List UInt8} (h : l.length = 16) (n : Nat) : cntC l n 0 = 0 := by
  unfold cntC
  rw [List.drop_eq_nil_of_le (by omega)]
  simp [num, Nat.mod_one]
theorem num_take {l : List UInt8} {k : Nat} {b : UInt8} (hk : l[k]? = some b) : num (l.take (k + 1)) = num (l.take k) * 256 + b.toNat := by
  rw [take_step l k b hk, num_snoc]
theorem num_drop {l : List UInt8} {k : Nat} {b : UInt8} (hk : l[k]? = some b) : num (l.drop k) = b.toNat * 256 ^ (l.drop (k + 1)).length + num (l.drop (k + 1)) := by
  obtain ⟨h1, h2⟩ := List.getElem?_eq_some_iff.1 hk
  rw [List.drop_eq_getElem_cons h1, h2]
  have := num_append [b] (l.drop (k + 1))
  simpa [num] using this
theorem cnt_sum {l : List UInt8} (h : l.length = 16) (n : Nat) {k : Nat} (hk : k < 16) {b : UInt8} (hb : l[15 - k]? = some b) :
    UInt8.ofNat ((num l + n) / 256 ^ k) = UInt8.ofNat (b.toNat + n / 256 ^ k % 256 + cntC l n k) ∧ cntC l n (k + 1) = (b.toNat + n / 256 ^ k % 256 + cntC l n k) / 256 := by
  have hp : 0 < 256 ^ k := Nat.pow_pos (by omega)
  have hdl : (l.drop (16 - k)).length = k := by rw [List.length_drop]; omega
  have e0 := num_append (l.take (16 - k)) (l.drop (16 - k))
  rw [List.take_append_drop, hdl] at e0
  have e1 := num_take hb
  rw [show 15 - k + 1 = 16 - k by omega] at e1
  have e2 := num_drop hb
  rw [show 15 - k + 1 = 16 - k by omega, hdl] at e2
  have en := Nat.div_add_mod n (256 ^ k)
  have e3 : (num l + n) / 256 ^ k = num (l.take (16 - k)) + n / 256 ^ k + cntC l n k := by
    have : num l + n = (num (l.drop (16 - k)) + n % 256 ^ k) + 256 ^ k * (num (l.take (16 - k)) + n / 256 ^ k) := by
      rw [e0, Nat.mul_add, Nat.mul_comm (256 ^ k) (num (l.take (16 - k)))]
      omega
    rw [this, Nat.add_mul_div_left _ _ hp]
    unfold cntC
    omega
  constructor
  · apply UInt8.toNat_inj.1
    rw [ofNat_toNat, ofNat_toNat, e3, e1]
    omega
  · have e4 : n % 256 ^ (k + 1) = n % 256 ^ k + 256 ^ k * (n / 256 ^ k % 256) := by rw [Nat.pow_succ, Nat.mod_mul]
    have e5 : cntC l n (k + 1) = (num (l.drop (16 - k)) + n % 256 ^ k + 256 ^ k * (b.toNat + n / 256 ^ k % 256)) / 256 ^ k / 256 := by
      unfold cntC
      rw [show 16 - (k + 1) = 15 - k by omega, e2, e4, Nat.pow_succ, ← Nat.div_div_eq_div_mul, Nat.mul_add, Nat.mul_comm (b.toNat)]
      congr 2
      omega
    rw [e5, Nat.add_mul_div_left _ _ hp]
    unfold cntC
    congr 1
    omega
/-- The lowest k bytes counted. -/
def cntP (l : List UInt8) (n k : Nat) : List UInt8 := l.take (16 - k) ++ be k (num l + n)
theorem cntP_zero {l : List UInt8} (h : l.length = 16) (n : Nat) : cntP l n 0 = l := by
  unfold cntP be
  rw [List.take_of_length_le (by omega), List.append_nil]
theorem cntP_end (l : List UInt8) (n : Nat) : cntP l n 16 = cnt l n := by unfold cntP; rw [cnt_eq]; simp
theorem cntP_length {l : List UInt8} (h : l.length = 16) (n : Nat) {k : Nat} (hk : k ≤ 16) : (cntP l n k).length = 16 := by
  unfold cntP; rw [List.length_append, List.length_take, be_length]; omega
theorem cntP_step {l : List UInt8} (h : l.length = 16) (n : Nat) {k : Nat} (hk : k < 16) {b : UInt8} (hb : l[15 - k]? = some b) :
    (cntP l n k).set (15 - k) (UInt8.ofNat (b.toNat + n / 256 ^ k % 256 + cntC l n k)) = cntP l n (k + 1) := by
  have ht : l.take (16 - k) = l.take (15 - k) ++ [b] := by
    rw [← take_step l (15 - k) b hb, show 15 - k + 1 = 16 - k by omega]
  have hl : (l.take (15 - k)).length = 15 - k := by rw [List.length_take]; omega
  unfold cntP
  rw [ht, List.append_assoc, List.set_append_right _ _ (by omega), hl, Nat.sub_self, be_consp, (cnt_sum h n hk hb).1, show 16 - (k + 1) = 15 - k by omega]
  rfl
theorem cntP_get {l : List UInt8} (h : l.length = 16) (n : Nat) {k : Nat} (hk : k < 16) : (cntP l n k)[15 - k]? = l[15 - k]? := by
  unfold cntP
  rw [List.getElem?_append_left (by rw [List.length_take]; omega), List.getElem?_take, if_pos (by omega)]
end Go.Proofs.YtibcjbelcplpjaaDoor
/-
  Plain mathematics of layer 11: the classes, a slice's size, the inside, the package. Nothing of the program here.
-/
namespace Go.Proofs.YtibcjbelcplpjaaDoor
set_option linter.unusedVariables false

/-- The class of a secret's length. -/
def clsN (n : Nat) : Nat := if n ≤ 30 then 32 else if n ≤ 62 then 64 else if n ≤ 126 then 128 else if n ≤ 254 then 256 else if n ≤ 510 then 512 else 1024
def isCls (c : Int) : Bool := decide (c = 32) || decide (c = 64) || decide (c = 128) || decide (c = 256) || decide (c = 512) || decide (c = 1024)
theorem isCls_cases {c : Int} (h : isCls c = true) : c = 32 ∨ c = 64 ∨ c = 128 ∨ c = 256 ∨ c = 512 ∨ c = 1024 := by
  unfold isCls at h
  simp only [Bool.or_eq_true, decide_eq_true_eq] at h
  omega
theorem clsN_cases (n : Nat) : clsN n = 32 ∨ clsN n = 64 ∨ clsN n = 128 ∨ clsN n = 256 ∨ clsN n = 512 ∨ clsN n = 1024 := by
  unfold clsN
  repeat' split
  all_goals simp
theorem clsN_ge {n : Nat} (h : n ≤ 1000) : n + 2 ≤ clsN n := by
  unfold clsN
  repeat' split
  all_goals omega
theorem clsN_le (n : Nat) : clsN n ≤ 1024 := by
  unfold clsN
  repeat' split
  all_goals omega
theorem clsN_isCls (n : Nat) : isCls (clsN n : Nat) = true := by
  rcases clsN_cases n with h | h | h | h | h | h <;> rw [h] <;> rfl
/-- How many bytes a slice has. -/
def sizN (c k : Nat) : Nat := (c + 48 + (k - 1)) / k
theorem sizN_mul {c k : Nat} (h : 1 ≤ k) : c + 48 ≤ k * sizN c k ∧ k * sizN c k < c + 48 + k := by
  unfold sizN
  have h1 := Nat.div_add_mod (c + 48 + (k - 1)) k
  have h2 := Nat.mod_lt (c + 48 + (k - 1)) (show k > 0 by omega)
  generalize k * ((c + 48 + (k - 1)) / k) = q at *
  omega
/-- The least number from m on that k divides. -/
theorem least_mult {k m j : Nat} (hk : 1 ≤ k) (h1 : m ≤ j) (h2 : ∀ i, m ≤ i → i < j → i % k ≠ 0) (h3 : j % k = 0) : j = k * ((m + (k - 1)) / k) := by
  have a1 := Nat.div_add_mod (m + (k - 1)) k
  have a2 := Nat.mod_lt (m + (k - 1)) (show k > 0 by omega)
  obtain ⟨q, hq⟩ : ∃ q, j = k * q := ⟨j / k, by have := Nat.div_add_mod j k; omega⟩
  generalize hr : (m + (k - 1)) / k = r at *
  by_cases hlt : q < r
  · have : k * (q + 1) ≤ k * r := Nat.mul_le_mul_left k (by omega)
    rw [Nat.mul_add] at this
    omega
  · by_cases hgt : r < q
    · have h4 : k * (r + 1) ≤ k * q := Nat.mul_le_mul_left k (by omega)
      rw [Nat.mul_add] at h4
      exact absurd (Nat.mul_mod_right k r) (h2 (k * r) (by omega) (by omega))
    · have : q = r := by omega
      subst this
      exact hq

/-- The inside of a secret. -/
@[irreducible] def insL (s : List UInt8) : List UInt8 := be 2 s.length ++ s ++ List.replicate (clsN s.length + 14 - s.length) 0
theorem insL_length {s : List UInt8} (h : s.length ≤ 1000) : (insL s).length = clsN s.length + 16 := by
  have := clsN_ge h
  unfold insL
  rw [List.length_append, List.length_append, List.length_replicate, be_length]
  omega
def nil16 : List UInt8 := List.replicate 16 0
/-- Its hidden part. -/
@[irreducible] def hidL (key s : List UInt8) : List UInt8 := hide (aesWords key) nil16 (insL s)
theorem hidL_length {key s : List UInt8} (h : s.length ≤ 1000) : (hidL key s).length = clsN s.length + 16 := by unfold hidL; rw [hide_length, insL_length h]
/-- Two keys, byte by byte. -/
def xorL (a b : List UInt8) : List UInt8 := List.zipWith (· ^^^ ·) a b
/-- The package, filled up for k slices. -/
@[irreducible] def pkgL (k : Nat) (key s : List UInt8) : List UInt8 :=
  hidL key s ++ xorL (shaSum (hidL key s)) key ++ List.replicate (k * sizN (clsN s.length) k - (clsN s.length + 48)) 0
theorem pkgL_length {k : Nat} {key s : List UInt8} (hk : 1 ≤ k) (hl : key.length = 32) (h : s.length ≤ 1000) : (pkgL k key s).length = k * sizN (clsN s.length) k := by
  have := sizN_mul (c := clsN s.length) hk
  unfold pkgL xorL
  rw [List.length_append, List.length_append, List.length_zipWith, List.length_replicate, hidL_length h, shaSum_length, hl]
  omega
/-- A text cut in k texts of n bytes. -/
def cutL (k n : Nat) (l : List UInt8) : List (List UInt8) := (List.range k).map fun i => (l.drop (i * n)).take n
theorem cutL_length (k n : Nat) (l : List UInt8) : (cutL k n l).length = k := by simp [cutL]
theorem cutL_get {k n i : Nat} (l : List UInt8) (h : i < k) : (cutL k n l)[i]? = some ((l.drop (i * n)).take n) := by simp [cutL, h]
theorem cutL_flat (k n : Nat) (l : List UInt8) (h : l.length = k * n) : (cutL k n l).flatten = l := by
  have key : ∀ m, m ≤ k → (cutL m n l).flatten = l.take (m * n) := by
    intro m
    induction m with
    | zero => intro _; simp [cutL]
    | succ m ih =>
      intro hm
      have h1 : cutL (m + 1) n l = cutL m n l ++ [(l.drop (m * n)).take n] := by simp [cutL, List.range_succ]
      have h2 : m * n + n ≤ k * n := by rw [← Nat.succ_mul]; exact Nat.mul_le_mul_right n hm
      rw [h1, List.flatten_append, ih (by omega), Nat.succ_mul, List.take_add]
      simp
  rw [key k (Nat.le_refl _), List.take_of_length_le (by omega)]
end Go.Proofs.YtibcjbelcplpjaaDoor
/-
  Plain mathematics of layer 13: frames, their bytes, the frames that bytes tell. Nothing of the program here.
-/
namespace Go.Proofs.YtibcjbelcplpjaaDoor
set_option linter.unusedVariables false

/-- A frame. -/
structure Fr where
  obj : List UInt8
  idx : Int
  cnt : Int
  kk : Int
  cls : Int
  piece : List UInt8
def fr0 : Fr := ⟨List.replicate 16 0, 0, 0, 0, 0, []⟩
/-- The counts alone. -/
def frNums (f : Fr) : Bool := decide (1 ≤ f.cnt ∧ f.cnt ≤ 255 ∧ 1 ≤ f.kk ∧ f.kk ≤ f.cnt ∧ 0 ≤ f.idx ∧ f.idx < f.cnt)
@[irreducible] def frRight (f : Fr) : Bool := frNums f && isCls f.cls && decide (sizN f.cls.toNat f.kk.toNat = f.piece.length)
theorem frNums_iff {f : Fr} : frNums f = true ↔ (1 ≤ f.cnt ∧ f.cnt ≤ 255 ∧ 1 ≤ f.kk ∧ f.kk ≤ f.cnt ∧ 0 ≤ f.idx ∧ f.idx < f.cnt) := by unfold frNums; exact decide_eq_true_iff
theorem frRight_iff {f : Fr} : frRight f = true ↔ (1 ≤ f.cnt ∧ f.cnt ≤ 255 ∧ 1 ≤ f.kk ∧ f.kk ≤ f.cnt ∧ 0 ≤ f.idx ∧ f.idx < f.cnt) ∧ isCls f.cls = true ∧ sizN f.cls.toNat f.kk.toNat = f.piece.length := by
  unfold frRight
  rw [Bool.and_eq_true, Bool.and_eq_true, frNums_iff, decide_eq_true_iff, and_assoc]
theorem sizN_le {c k : Nat} (hc : c ≤ 1024) (hk : 1 ≤ k) : sizN c k ≤ 1072 := by
  have h := (sizN_mul (c := c) hk).2
  rcases Nat.lt_or_ge 1072 (sizN c k) with h1 | h1
  · have h2 := Nat.mul_le_mul_left k h1
    have h3 : k * (1072 + 1) = k * 1072 + k := by rw [Nat.mul_add, Nat.mul_one]
    have h4 : 1072 ≤ k * 1072 := Nat.le_mul_of_pos_left _ (by omega)
    omega
  · exact h1
theorem frRight_facts {f : Fr} (h : frRight f = true) : (1 ≤ f.cnt ∧ f.cnt ≤ 255 ∧ 1 ≤ f.kk ∧ f.kk ≤ f.cnt ∧ 0 ≤ f.idx ∧ f.idx < f.cnt) ∧ 0 ≤ f.cls ∧ f.cls ≤ 1024 ∧ f.piece.length ≤ 1072 := by
  obtain ⟨h1, h2, h3⟩ := frRight_iff.1 h
  have h4 := isCls_cases h2
  have h5 := sizN_le (c := f.cls.toNat) (k := f.kk.toNat) (by omega) (by omega)
  omega

/-- A frame's bytes, but for the tag. -/
@[irreducible] def frPlain (f : Fr) : List UInt8 := 241 :: (f.obj ++ (UInt8.ofNat f.idx.toNat :: UInt8.ofNat f.cnt.toNat :: UInt8.ofNat f.kk.toNat :: (be 2 f.cls.toNat ++ (sm f.piece.length ++ f.piece))))
/-- The frame that bytes tell, whose piece is t. -/
@[irreducible] def frTold (p t : List UInt8) : Fr := ⟨(p.drop 1).take 16, (((p[17]?).getD 0).toNat : Nat), (((p[18]?).getD 0).toNat : Nat), (((p[19]?).getD 0).toNat : Nat), (num ((p.drop 20).take 2) : Nat), t⟩
/-- What bytes without a tag tell, and the error. -/
@[irreducible] def frPick (p : List UInt8) : Fr × Nat :=
  if p.length < 22 then (fr0, 1)
  else if (ttext (p.drop 22) 65536).2.2 ≠ 0 then (fr0, (ttext (p.drop 22) 65536).2.2)
  else if (p[0]?).getD 0 ≠ 241 ∨ 22 + (ttext (p.drop 22) 65536).2.1 < p.length then (fr0, 2)
  else if frRight (frTold p (ttext (p.drop 22) 65536).1) = true then (frTold p (ttext (p.drop 22) 65536).1, 0) else (fr0, 14)
@[irreducible] def frGet (key b : List UInt8) : Fr × Nat :=
  if b.length < 32 then (fr0, 1)
  else if b.take (b.length - 32) ++ hTag key (b.take (b.length - 32)) ≠ b then (fr0, 4)
  else frPick (b.take (b.length - 32))
@[irreducible] def frPut (key : List UInt8) (f : Fr) : List UInt8 × Nat := if frRight f = true then (frPlain f ++ hTag key (frPlain f), 0) else ([], 14)
theorem frPut_ok {key : List UInt8} {f : Fr} (h : frRight f = true) : frPut key f = (frPlain f ++ hTag key (frPlain f), 0) := by unfold frPut; rw [if_pos h]
theorem frPut_no {key : List UInt8} {f : Fr} (h : frRight f = false) : frPut key f = ([], 14) := by unfold frPut; rw [if_neg (by rw [h]; simp)]

section
variable {h a b c : UInt8} {O M T : List UInt8}
theorem form_len (hO : O.length = 16) (hM : M.length = 2) : (h :: (O ++ (a :: b :: c :: (M ++ T)))).length = 22 + T.length := by
  simp only [List.length_cons, List.length_append, hO, hM]; omega
theorem form_drop (hO : O.length = 16) (hM : M.length = 2) : (h :: (O ++ (a :: b :: c :: (M ++ T)))).drop 22 = T := by
  have e : h :: (O ++ (a :: b :: c :: (M ++ T))) = (h :: (O ++ (a :: b :: c :: M))) ++ T := by simp
  rw [e]
  exact List.drop_left' (by simp only [List.length_cons, List.length_append, hO, hM])
theorem form_told (hO : O.length = 16) (hM : M.length = 2) (t : List UInt8) : frTold (h :: (O ++ (a :: b :: c :: (M ++ T)))) t = ⟨O, (a.toNat : Nat), (b.toNat : Nat), (c.toNat : Nat), (num M : Nat), t⟩ := by
  have e1 : ((h :: (O ++ (a :: b :: c :: (M ++ T)))).drop 1).take 16 = O := by
    rw [List.drop_succ_cons, List.drop_zero]
    exact List.take_left' hO
  have e5 : ((h :: (O ++ (a :: b :: c :: (M ++ T)))).drop 20).take 2 = M := by
    have e : h :: (O ++ (a :: b :: c :: (M ++ T))) = (h :: (O ++ [a, b, c])) ++ (M ++ T) := by simp
    rw [e, List.drop_left' (by simp only [List.length_cons, List.length_append, hO, List.length_nil])]
    exact List.take_left' hM
  have eg : ∀ j, (h :: (O ++ (a :: b :: c :: (M ++ T))))[17 + j]? = (a :: b :: c :: (M ++ T))[j]? := fun j => by
    rw [show 17 + j = (16 + j) + 1 by omega, List.getElem?_cons_succ, List.getElem?_append_right (by omega), hO]
    congr 1
    omega
  unfold frTold
  rw [e1, e5, show (17 : Nat) = 17 + 0 from rfl, eg, show (18 : Nat) = 17 + 1 from rfl, eg, show (19 : Nat) = 17 + 2 from rfl, eg]
  rfl
end
/-- Bytes of 22 or more, in their parts. -/
theorem parts22 {p : List UInt8} (hp : 22 ≤ p.length) : ∃ h O a b c M T, p = h :: (O ++ (a :: b :: c :: (M ++ T))) ∧ O.length = 16 ∧ M.length = 2 := by
  rcases p with _ | ⟨h, q⟩
  · simp at hp
  have hq : 21 ≤ q.length := by simpa using hp
  have e1 := (List.take_append_drop 16 q).symm
  have l1 : (q.take 16).length = 16 := by rw [List.length_take]; omega
  have l2 : (q.drop 16).length = q.length - 16 := by rw [List.length_drop]
  generalize q.take 16 = O at *
  generalize q.drop 16 = r at *
  subst e1
  rcases r with _ | ⟨a, _ | ⟨b, _ | ⟨c, r⟩⟩⟩
  · simp at l2 hq; omega
  · simp at l2 hq; omega
  · simp at l2 hq; omega
  · refine ⟨h, O, a, b, c, r.take 2, r.drop 2, by rw [List.take_append_drop], l1, ?_⟩
    simp at hq
    rw [List.length_take]
    omega
/-- The bytes that told a text are those that it is put as. -/
theorem sm_of_ttext {bs : List UInt8} {most : Int} {t : List UInt8} {d : Nat} (h : ttext bs most = (t, d, 0)) : bs.take d = sm t.length ++ t ∧ d ≤ bs.length := by
  obtain ⟨x, s, er, hs⟩ : ∃ x s er, tsm bs (max most 0).toNat = (x, s, er) := ⟨_, _, _, rfl⟩
  unfold ttext at h
  rw [hs] at h
  simp only at h
  split at h
  · simp at h; omega
  · split at h
    · simp at h
    · rename_i h1 h2
      have h1' : er = 0 := by omega
      subst h1'
      have h3 := sm_of_tsm hs
      have h4 := (tsm_facts hs).2.1
      simp only [Prod.mk.injEq] at h
      obtain ⟨rfl, rfl, _⟩ := h
      have l1 : ((bs.drop s).take x).length = x := by rw [List.length_take, List.length_drop]; omega
      rw [l1, ← h3, List.take_add]
      exact ⟨rfl, by omega⟩
theorem ttext_sm {t : List UInt8} (h : t.length ≤ 65536) : ttext (sm t.length ++ t) 65536 = (t, 1 + fol t.length + t.length, 0) := by
  have := ttext_put t [] 65536 (by omega) (by omega)
  rw [List.append_nil] at this
  exact this
theorem u8_back {z : Int} (h0 : 0 ≤ z) (h1 : z ≤ 255) : (((UInt8.ofNat z.toNat).toNat : Nat) : Int) = z := by rw [ofNat_toNat]; omega
theorem frPlain_length {f : Fr} (ho : f.obj.length = 16) : (frPlain f).length = 22 + (1 + fol f.piece.length + f.piece.length) := by
  unfold frPlain
  rw [form_len ho (be_length _ _), List.length_append, sm_length]

/-- What is put is got. -/
theorem frPick_plain {f : Fr} (h : frRight f = true) (ho : f.obj.length = 16) : frPick (frPlain f) = (f, 0) := by
  obtain ⟨⟨a1, a2, a3, a4, a5, a6⟩, a7, a8, a9⟩ := frRight_facts h
  have hM : (be 2 f.cls.toNat).length = 2 := be_length _ _
  have hl := frPlain_length ho
  have hd : (frPlain f).drop 22 = sm f.piece.length ++ f.piece := by unfold frPlain; exact form_drop ho hM
  have ht : frTold (frPlain f) f.piece = f := by
    unfold frPlain
    rw [form_told ho hM, u8_back a5 (by omega), u8_back (by omega) a2, u8_back (by omega) (by omega), num_be 2 _ (by omega), Int.toNat_of_nonneg a7]
  have h0 : ((frPlain f)[0]?).getD 0 = 241 := by unfold frPlain; rfl
  unfold frPick
  rw [hd, ttext_sm (by omega)]
  simp only
  rw [if_neg (by omega), if_neg (by simp), if_neg (by rw [h0, hl]; simp), ht, if_pos h]
theorem frGet_put {key : List UInt8} {f : Fr} (h : frRight f = true) (ho : f.obj.length = 16) : frGet key (frPut key f).1 = (f, 0) := by
  rw [frPut_ok h]
  have hl := hTag_length key (frPlain f)
  have e : (frPlain f ++ hTag key (frPlain f)).take ((frPlain f ++ hTag key (frPlain f)).length - 32) = frPlain f := by
    rw [List.length_append, hl, Nat.add_sub_cancel]
    exact List.take_left' rfl
  unfold frGet
  simp only
  rw [e, if_neg (by rw [List.length_append, hl]; omega), if_neg (by simp), frPick_plain h ho]
/-- What is got, put again, is the very bytes. -/
theorem frPlain_pick {p : List UInt8} {f : Fr} (h : frPick p = (f, 0)) : frPlain f = p ∧ frRight f = true ∧ f.obj.length = 16 := by
  unfold frPick at h
  split at h
  · simp at h
  rename_i hp
  obtain ⟨x, O, a, b, c, M, T, rfl, hO, hM⟩ := parts22 (p := p) (by omega)
  rw [form_drop hO hM, form_len hO hM, form_told hO hM] at h
  obtain ⟨t, d, er, ht⟩ : ∃ t d er, ttext T 65536 = (t, d, er) := ⟨_, _, _, rfl⟩
  rw [ht] at h
  simp only at h
  split at h
  · rename_i he
    simp only [Prod.mk.injEq] at h
    omega
  rename_i he
  have he' : er = 0 := by omega
  subst he'
  split at h
  · simp at h
  rename_i hq
  split at h
  · rename_i hr
    simp only [Prod.mk.injEq, and_true] at h
    subst h
    have hx : x = 241 := by
      have : ¬ x ≠ 241 := fun e => hq (.inl e)
      exact Decidable.not_not.1 this
    have hd : ¬ 22 + d < 22 + T.length := fun e => hq (.inr e)
    obtain ⟨h1, h2⟩ := sm_of_ttext ht
    rw [List.take_of_length_le (by omega)] at h1
    refine ⟨?_, hr, hO⟩
    unfold frPlain
    simp only [Int.toNat_natCast]
    have hb : be 2 (num M) = M := by have := be_num M; rw [hM] at this; exact this
    have hu : ∀ y : UInt8, UInt8.ofNat y.toNat = y := fun y => by simp
    rw [hu, hu, hu, hb, hx, ← h1]
  · simp at h
theorem frPut_get {key b : List UInt8} {f : Fr} (h : frGet key b = (f, 0)) : frPut key f = (b, 0) ∧ f.obj.length = 16 := by
  unfold frGet at h
  split at h
  · simp at h
  split at h
  · simp at h
  rename_i h1 h2
  have h3 := Decidable.not_not.1 h2
  obtain ⟨e1, e2, e3⟩ := frPlain_pick h
  rw [frPut_ok e2, e1, h3]
  exact ⟨rfl, e3⟩
end Go.Proofs.YtibcjbelcplpjaaDoor
/-
  How arguments that came in are read: words between a row's data and this seat's walks. No statement of the seed is proved here.
-/
namespace Go.Proofs.YtibcjbelcplpjaaDoor
open Go.ChangeShapes Go.WideShapes Go.ChangeAt Go.RowKit

theorem zs_byte (z : Int) (h : (Lit.int .u8 z).wf = true) : z = ((UInt8.ofNat z.toNat).toNat : Int) := by
  have := bounds_u8 h
  simp only [UInt8.toNat_ofNat']
  omega

/-- A byte slice that came in reads as bytes. -/
theorem rdb_of_trod {H : Type} {enc : TypeId × Value → H} {P : Program} {W : World} {t e : TypeId} {a : Option Addr} {len cap base : Nat} {sp : Nat → Bool} {held : Bool} {d : DataW H} {p : List MemPlace}
    (ht : P.underlying t = some (.slice e)) (he : P.underlying e = some (.int .u8)) (hc : P.cellsOf e = 1)
    (h : DataW.Trod enc P W base sp held t (.slice a len cap) d p) : ∃ bs, RdB W a len cap bs := by
  obtain ⟨fuel, hf⟩ := h
  rcases open_ints ht he hc hf with ⟨hcs, _⟩ | ⟨x, l, c, zs, hcs, _, hl, hm, hz, _, hcell, hwz⟩
  · simp [Value.cells] at hcs
    obtain ⟨rfl, rfl, rfl⟩ := hcs
    exact ⟨[], RdB.nil W⟩
  · simp [Value.cells] at hcs
    obtain ⟨rfl, rfl, rfl⟩ := hcs
    have hlen : len ≤ zs.length := by rw [hz]; split <;> omega
    refine ⟨(zs.take len).map (fun z => UInt8.ofNat z.toNat), by simp; omega, hl, hm, fun hp => ?_⟩
    obtain ⟨b, off, spot⟩ := x
    have hs : spot = none := by
      have h0 := hcell 0 (by omega)
      simpa [Addr.add] using World.cell?_spot h0
    subst hs
    refine ⟨b, off, rfl, fun j hj => ?_⟩
    simp only [List.length_map, List.length_take] at hj
    have hjz : j < zs.length := by omega
    have h1 := hcell j hjz
    have h2 : (⟨b, off, none⟩ : Addr).add j = ⟨b, off + j, none⟩ := by unfold Addr.add; split <;> simp_all
    rw [h2] at h1
    rw [h1]
    have h3 : zs.getD j 0 = zs[j] := by simp [hjz]
    rw [h3]
    simp only [bcell, List.getElem_map, List.getElem_take]
    rw [← zs_byte zs[j] (hwz _ (List.getElem_mem hjz))]

/-- Element by element makes a list. -/
theorem list_of {α : Type} {R : Nat → α → Prop} : ∀ {n : Nat}, (∀ i, i < n → ∃ a, R i a) → ∃ l : List α, l.length = n ∧ ∀ j, (h : j < l.length) → R j l[j]
  | 0, _ => ⟨[], rfl, fun j h => absurd h (by simp)⟩
  | n + 1, hh => by
    obtain ⟨l, hl, hr⟩ := list_of (n := n) (fun i hi => hh i (by omega))
    obtain ⟨a, ha⟩ := hh n (by omega)
    refine ⟨l ++ [a], by simp [hl], fun j hj => ?_⟩
    rw [List.length_append, List.length_singleton] at hj
    rcases Nat.lt_or_ge j l.length with h1 | h1
    · rw [List.getElem_append_left h1]; exact hr j h1
    · obtain rfl : j = l.length := by omega
      simp only [List.getElem_concat_length]
      rw [hl]; exact ha

section
variable {H : Type} {enc : TypeId × Value → H} {P : Program} {W : World} {base : Nat} {sp : Nat → Bool} {held : Bool}

theorem addr_add (b off j : Nat) : (⟨b, off, none⟩ : Addr).add j = ⟨b, off + j, none⟩ := by unfold Addr.add; split <;> simp_all

/-- A slice that came in, element by element: where its cells lie, and that each element reads. -/
theorem slice_elems {t e : TypeId} {n : Nat} {cs0 : List Value} {y : DataW H × List MemPlace} (ht : P.underlying t = some (.slice e)) (hC : 0 < P.cellsOf e) (h : DataW.trod enc P W base sp held n t cs0 = some y) :
    ∃ A len cap, cs0 = [.slice A len cap] ∧ len ≤ cap ∧ cap ≤ maxLen ∧ (0 < len → ∃ b off, A = some ⟨b, off, none⟩ ∧ ∀ i, i < len → ∃ (cs : List Value) (m : Nat) (z : DataW H × List MemPlace), cs.length = P.cellsOf e ∧
      (∀ j, j < P.cellsOf e → W.cell? ⟨b, off + (i * P.cellsOf e + j), none⟩ = cs[j]?) ∧ DataW.trod enc P W base sp held m e cs = some z) := by
  rcases Deep.open_slice ht h with ⟨rfl, _⟩ | ⟨a, len, cap, m, k, D, Pl, rfl, hb, hl, hm, hmm, hx, hi⟩
  · exact ⟨none, 0, 0, rfl, Nat.le_refl _, by simp [maxLen], fun h => absurd h (by omega)⟩
  · refine ⟨some a, len, cap, rfl, hl, hm, fun hp => ?_⟩
    have hlm : len ≤ m := by rw [hmm]; split <;> omega
    obtain ⟨b, off, spot⟩ := a
    have hs : spot = none := by
      obtain ⟨cs', hc, _⟩ := hi 0 (by omega)
      obtain ⟨_, hcl, hat⟩ := World.cells?_some hc
      have h0 := hat 0 hC
      rw [List.getElem?_eq_getElem (by omega)] at h0
      simpa [Addr.add] using World.cell?_spot h0
    subst hs
    refine ⟨b, off, rfl, fun i hil => ?_⟩
    obtain ⟨cs', hc, htr⟩ := hi i (by omega)
    obtain ⟨_, hcl, hat⟩ := World.cells?_some hc
    refine ⟨cs', k, _, hcl, fun j hj => ?_, htr⟩
    have := hat j hj
    rwa [addr_add, addr_add, Nat.add_assoc] at this

/-- One field of a struct that reads: its type, its place, its number of cells. -/
theorem struct_field {t : TypeId} {fs : Array Field} {n : Nat} {cs : List Value} {y : DataW H × List MemPlace} (ht : P.underlying t = some (.struct fs)) (h : DataW.trod enc P W base sp held n t cs = some y) (i : Nat) (ft : TypeId) (o k : Nat)
    (hf : (fs[i]?).map (fun f => (f.type, f.offset)) = some (ft, o)) (hk : P.cellsOf ft = k) : ∃ (m : Nat) (z : DataW H × List MemPlace), DataW.trod enc P W base sp held m ft ((cs.drop o).take k) = some z := by
  obtain ⟨xs, m, _, _, _, hlen, hall⟩ := DataW.trod_struct ht h
  obtain ⟨f, hf1, hf2⟩ := Option.map_eq_some_iff.1 hf
  simp only [Prod.mk.injEq] at hf2
  obtain ⟨rfl, rfl⟩ := hf2
  subst hk
  have := hall i f hf1
  have hi : i < fs.size := (Array.getElem?_eq_some_iff.1 hf1).1
  exact ⟨m, xs[i]'(by omega), by rw [this, List.getElem?_eq_getElem (by omega)]⟩
theorem leaf_int {t : TypeId} {k : IntKind} {n : Nat} {cs : List Value} {y : DataW H × List MemPlace} (ht : P.underlying t = some (.int k)) (h : DataW.trod enc P W base sp held n t cs = some y) : ∃ z, cs = [.int k z] ∧ (Lit.int k z).wf = true := by
  obtain ⟨a, e0, _, wa⟩ := DataW.trod_int ht h
  exact ⟨a, e0, wa⟩
theorem leaf_bytes {t e : TypeId} {n : Nat} {cs : List Value} {y : DataW H × List MemPlace} (ht : P.underlying t = some (.slice e)) (he : P.underlying e = some (.int .u8)) (hc : P.cellsOf e = 1) (h : DataW.trod enc P W base sp held n t cs = some y) :
    ∃ A len cap bs, cs = [.slice A len cap] ∧ RdB W A len cap bs := by
  obtain ⟨A, len, cap, rfl, _⟩ := slice_elems ht (by omega) h
  obtain ⟨bs, hb⟩ := rdb_of_trod (d := y.1) (p := y.2) (a := A) (len := len) (cap := cap) ht he hc ⟨n, by simpa [Value.cells] using h⟩
  exact ⟨A, len, cap, bs, rfl, hb⟩
end
end Go.Proofs.YtibcjbelcplpjaaDoor
/-
  Frames as values and in memory. No statement of the seed is proved here.
-/
namespace Go.Proofs.YtibcjbelcplpjaaDoor
open Go.RowKit
set_option linter.unusedVariables false

/-- A frame's cells: its piece lies in A, n, c. -/
@[irreducible] def frc (f : Fr) (A : Option Addr) (n c : Nat) : List Value := bvs f.obj ++ [.int .i64 f.idx, .int .i64 f.cnt, .int .i64 f.kk, .int .i64 f.cls, .slice A n c]
def I64 (z : Int) : Prop := -9223372036854775808 ≤ z ∧ z ≤ 9223372036854775807
/-- A frame that reads as f. -/
structure FrAt (w : World) (f : Fr) (A : Option Addr) (n c : Nat) : Prop where
  obj : f.obj.length = 16
  idx : I64 f.idx
  cnt : I64 f.cnt
  kk : I64 f.kk
  cls : I64 f.cls
  piece : RdB w A n c f.piece
section
variable {w w' : World} {f : Fr} {A : Option Addr} {n c : Nat}
theorem FrAt.kept0 (h : FrAt w f A n c) (hk : Kept [] w w') : FrAt w' f A n c := ⟨h.obj, h.idx, h.cnt, h.kk, h.cls, h.piece.kept0 hk⟩
theorem FrAt.kept {S : List Nat} (h : FrAt w f A n c) (hk : Kept S w w') (hS : 0 < n → Off A S) : FrAt w' f A n c := ⟨h.obj, h.idx, h.cnt, h.kk, h.cls, h.piece.keptIf hk hS⟩
theorem frc_length (h : f.obj.length = 16) : (frc f A n c).length = 21 := by unfold frc; rw [List.length_append, bvs_length, h]; rfl
theorem frc_obj (h : f.obj.length = 16) {j : Nat} {b : UInt8} (hb : f.obj[j]? = some b) : (frc f A n c)[j]? = some (.int .u8 (b.toNat : Int)) := by
  have hj := (List.getElem?_eq_some_iff.1 hb).1
  unfold frc
  rw [List.getElem?_append_left (by rw [bvs_length]; exact hj), bvs, List.getElem?_map, hb]
  rfl
theorem frc_at (h : f.obj.length = 16) (j : Nat) : (frc f A n c)[16 + j]? = [Value.int .i64 f.idx, .int .i64 f.cnt, .int .i64 f.kk, .int .i64 f.cls, .slice A n c][j]? := by
  unfold frc
  rw [List.getElem?_append_right (by rw [bvs_length]; omega), bvs_length, h]
  congr 1
  omega
theorem frc_idx (h : f.obj.length = 16) : (frc f A n c)[16]? = some (.int .i64 f.idx) := frc_at h 0
theorem frc_cnt (h : f.obj.length = 16) : (frc f A n c)[17]? = some (.int .i64 f.cnt) := frc_at h 1
theorem frc_kk (h : f.obj.length = 16) : (frc f A n c)[18]? = some (.int .i64 f.kk) := frc_at h 2
theorem frc_cls (h : f.obj.length = 16) : (frc f A n c)[19]? = some (.int .i64 f.cls) := frc_at h 3
theorem frc_piece (h : f.obj.length = 16) : (frc f A n c)[20]? = some (.slice A n c) := frc_at h 4
theorem frc_one (f : Fr) (A : Option Addr) (n c : Nat) : ∀ v ∈ frc f A n c, v.oneCell' = true := by
  intro v hv
  unfold frc at hv
  rcases List.mem_append.1 hv with h | h
  · exact bvs_one _ v h
  · simp only [List.mem_cons, List.not_mem_nil, or_false] at h
    rcases h with rfl | rfl | rfl | rfl | rfl <;> rfl
theorem sizeFr : (Tryd.prog.info? 28).map (·.size) = some 21 := by kernel_rfl
theorem frc_size (h : f.obj.length = 16) : (Tryd.prog.info? 28).map (·.size) = some (frc f A n c).length := by rw [frc_length h]; exact sizeFr
theorem frc_zero : frc fr0 none 0 0 = zb 16 ++ [.int .i64 0, .int .i64 0, .int .i64 0, .int .i64 0, .slice none 0 0] := by unfold frc fr0 zb bvs; rfl
theorem zeroFr : (Tryd.prog.info? 28).bind (·.zero) = some (.agg (frc fr0 none 0 0).toArray) := by rw [frc_zero]; kernel_rfl
theorem builtFr : Tryd.prog.built 28 [] = some (frc fr0 none 0 0).toArray := by rw [frc_zero]; kernel_rfl
theorem builtFrE (ev : Operand → Value) : Tryd.prog.built 28 ((#[] : Array (Nat × Operand)).map fun (i, x) => (i, ev x)).toList = some (frc fr0 none 0 0).toArray := by simpa using builtFr
theorem fr0_at (w : World) : FrAt w fr0 none 0 0 := ⟨by unfold fr0; simp, by unfold I64 fr0; simp, by unfold I64 fr0; simp, by unfold I64 fr0; simp, by unfold I64 fr0; simp, RdB.nil w⟩
/-- The cells of a frame in a block. -/
structure FrB (w : World) (g : Nat) (f : Fr) (A : Option Addr) (n c : Nat) : Prop where
  blk : Blk w g 28 (frc f A n c)
  obj : f.obj.length = 16
theorem FrB.new (w : World) (f : Fr) (A : Option Addr) (n c : Nat) (h : f.obj.length = 16) : FrB (w.alloc (.cells (frc f A n c).toArray 28)) w.heap.size f A n c := ⟨Blk.new w 28 _, h⟩
theorem FrB.idx {g : Nat} (h : FrB w g f A n c) : w.cell? ⟨g, 16, none⟩ = some (.int .i64 f.idx) := by rw [h.blk.cell]; exact frc_idx h.obj
theorem FrB.cnt {g : Nat} (h : FrB w g f A n c) : w.cell? ⟨g, 17, none⟩ = some (.int .i64 f.cnt) := by rw [h.blk.cell]; exact frc_cnt h.obj
theorem FrB.kk {g : Nat} (h : FrB w g f A n c) : w.cell? ⟨g, 18, none⟩ = some (.int .i64 f.kk) := by rw [h.blk.cell]; exact frc_kk h.obj
theorem FrB.cls {g : Nat} (h : FrB w g f A n c) : w.cell? ⟨g, 19, none⟩ = some (.int .i64 f.cls) := by rw [h.blk.cell]; exact frc_cls h.obj
theorem FrB.piece {g : Nat} (h : FrB w g f A n c) : w.cell? ⟨g, 20, none⟩ = some (.slice A n c) := by rw [h.blk.cell]; exact frc_piece h.obj
theorem FrB.objAt {g : Nat} (h : FrB w g f A n c) {j : Nat} {b : UInt8} (hb : f.obj[j]? = some b) : w.cell? ⟨g, j, none⟩ = some (.int .u8 (b.toNat : Int)) := by rw [h.blk.cell]; exact frc_obj h.obj hb
theorem FrB.range {g : Nat} (h : FrB w g f A n c) : w.rangeAt g 0 (bvs f.obj) := fun j v hv => by
  rw [Nat.zero_add]
  have hj := (List.getElem?_eq_some_iff.1 hv).1
  rw [bvs_length] at hj
  have hb : f.obj[j]? = some (f.obj[j]'hj) := List.getElem?_eq_getElem hj
  rw [h.objAt hb, ← hv, bvs, List.getElem?_map, hb]
  rfl
theorem FrB.kept0 {g : Nat} (h : FrB w g f A n c) (hk : Kept [] w w') : FrB w' g f A n c := ⟨h.blk.kept0 hk, h.obj⟩
theorem FrB.kept {S : List Nat} {g : Nat} (h : FrB w g f A n c) (hk : Kept S w w') (hS : g ∉ S) : FrB w' g f A n c := ⟨h.blk.kept hk hS, h.obj⟩
end
end Go.Proofs.YtibcjbelcplpjaaDoor
/-
  Contract of layer 11, the document's own: a slice's size. No statement of the seed is proved here.
-/
namespace Go.Proofs.YtibcjbelcplpjaaDoor
open Go.RowKit
set_option linter.unusedVariables false

@[irreducible] def sizV (c k : Int) : Value := if isCls c = true ∧ 1 ≤ k ∧ k ≤ 255 then .tuple #[.int .i64 (sizN c.toNat k.toNat : Nat), .int .i64 0] else .tuple #[.int .i64 0, .int .i64 14]
theorem sizV_yes {c k : Int} (h : isCls c = true) (h0 : 1 ≤ k) (h1 : k ≤ 255) : sizV c k = .tuple #[.int .i64 (sizN c.toNat k.toNat : Nat), .int .i64 0] := by unfold sizV; rw [if_pos ⟨h, h0, h1⟩]
theorem sizV_no {c k : Int} (h : ¬ (isCls c = true ∧ 1 ≤ k ∧ k ≤ 255)) : sizV c k = .tuple #[.int .i64 0, .int .i64 14] := by unfold sizV; rw [if_neg h]

set_option maxRecDepth 100000 in
set_option maxHeartbeats 4000000 in
theorem rSiz_no (c k : Int) (h : isCls c = false) (w : World) : Calls Tryd.prog 26 #[.int .i64 c, .int .i64 k] w fun e w' => e = .returned (sizV c k) ∧ w = w' := by
  rw [sizV_no (fun g => by rw [h] at g; exact absurd g.1 (by simp))]
  unfold isCls at h
  simp only [Bool.or_eq_false_iff, decide_eq_false_iff_not] at h
  have p1 : (c == 32) = false := by simpa using h.1.1.1.1.1
  have p2 : (c == 64) = false := by simpa using h.1.1.1.1.2
  have p3 : (c == 128) = false := by simpa using h.1.1.1.2
  have p4 : (c == 256) = false := by simpa using h.1.1.2
  have p5 : (c == 512) = false := by simpa using h.1.2
  have p6 : (c == 1024) = false := by simpa using h.2
  clear h
  go_enter Tryd.func26, Tryd.ntmps26
  go_wp2
  go_ret2
  exact ⟨rfl, rfl⟩
set_option maxRecDepth 100000 in
set_option maxHeartbeats 4000000 in
theorem rSiz_few (c k : Int) (h : isCls c = true) (hk : k < 1 ∨ 255 < k) (w : World) : Calls Tryd.prog 26 #[.int .i64 c, .int .i64 k] w fun e w' => e = .returned (sizV c k) ∧ w = w' := by
  rw [sizV_no (by omega)]
  rcases isCls_cases h with rfl | rfl | rfl | rfl | rfl | rfl
  all_goals
    clear h
    rcases hk with hk | hk
    · go_enter Tryd.func26, Tryd.ntmps26
      go_wp2
      go_ret2
      exact ⟨rfl, rfl⟩
    · have hk1 : ¬ k < 1 := by omega
      go_enter Tryd.func26, Tryd.ntmps26
      go_wp2
      go_ret2
      exact ⟨rfl, rfl⟩
set_option maxRecDepth 100000 in
set_option maxHeartbeats 8000000 in
theorem rSiz_yes (c k : Nat) (h : isCls c = true) (hk1 : 1 ≤ k) (hk2 : k ≤ 255) (w : World) : Calls Tryd.prog 26 #[.int .i64 c, .int .i64 k] w fun e w' => e = .returned (sizV c k) ∧ w = w' := by
  obtain ⟨R, hR⟩ : ∃ R, ((sizN c k : Nat) : Int) = R := ⟨_, rfl⟩
  rw [sizV_yes h (by omega) (by omega), Int.toNat_natCast, Int.toNat_natCast, hR]
  obtain ⟨m, hm⟩ : ∃ m, c + 48 = m := ⟨_, rfl⟩
  have hm2 : m ≤ 1072 := by have := isCls_cases h; omega
  have HR : Hid (∀ j, m ≤ j → (∀ i, m ≤ i → i < j → i % k ≠ 0) → j % k = 0 → ((j / k : Nat) : Int) = R) := Lib.hid (fun j h1 h2 h3 => by
    rw [← hR]
    have := least_mult hk1 h1 h2 h3
    rw [this, Nat.mul_div_cancel_left _ (by omega), ← hm]
    rfl)
  have hc := isCls_cases h
  have Hlt : Hid (∀ j, m ≤ j → (∀ i, m ≤ i → i < j → i % k ≠ 0) → j % k ≠ 0 → j < m + k) := Lib.hid (fun j h1 h2 h3 => by
    by_cases hj : j < m + k
    · exact hj
    · exfalso
      have q1 := Nat.div_add_mod (m + (k - 1)) k
      have q2 := Nat.mod_lt (m + (k - 1)) (show k > 0 by omega)
      generalize (m + (k - 1)) / k = q at *
      exact h2 (k * q) (by omega) (by omega) (Nat.mul_mod_right k q))
  clear hR h
  rcases (by omega : c = 32 ∨ c = 64 ∨ c = 128 ∨ c = 256 ∨ c = 512 ∨ c = 1024) with rfl | rfl | rfl | rfl | rfl | rfl
  all_goals
    clear hc
    have hk0 : ¬ (k : Int) = 0 := by omega
    go_enter Tryd.func26, Tryd.ntmps26
    go_wp2
    go_loopw [7] (fun n wr => ∃ j : Nat, m ≤ j ∧ j ≤ m + k ∧ n = .int .i64 (j : Int) ∧ w = wr ∧ Hid (∀ i, m ≤ i → i < j → i % k ≠ 0)) (fun n _ => (m + k + 1 - (intOf n).toNat))
    case atStart => exact ⟨m, by omega, by omega, by rw [← hm] <;> rfl, rfl, Lib.hid (by omega)⟩
    case round =>
      obtain ⟨j, j0, j1, rfl, rfl, Hj⟩ := hrel
      by_cases hp : j % k = 0
      · have hp2 : (j : Int) % (k : Int) = 0 := by omega
        have Hf : Hid (wrap64 ((j : Int) / (k : Int)) = R) := Lib.hid (by
          rw [← HR.out j j0 Hj.out hp]
          have h1 := Nat.div_le_self j k
          have h3 : (0 : Int) ≤ (j : Int) / (k : Int) := Int.ediv_nonneg (by omega) (by omega)
          have h4 : ((j / k : Nat) : Int) = (j : Int) / (k : Int) := by omega
          rw [h4]
          exact IntWalk.wrap64_in _ (by omega))
        go_wp2
        go_ret2
        exact ⟨by rw [← Hf.out] <;> rfl, rfl⟩
      · have hlt := Hlt.out j j0 Hj.out hp
        have hp2 : ¬ (j : Int) % (k : Int) = 0 := by omega
        have Hn : Hid (∀ i, m ≤ i → i < j + 1 → i % k ≠ 0) := Lib.hid (fun i g1 g2 => by
          rcases Nat.lt_or_ge i j with h | h
          · exact Hj.out i g1 h
          · rw [(by omega : i = j)]; exact hp)
        clear hp Hj
        go_wp2
        go_roundw
        case rel => exact ⟨j + 1, by omega, by omega, rfl, trivial, Hn⟩
        case measure => simp [intOf]; omega
theorem rSiz_any (c k : Int) (w : World) : Calls Tryd.prog 26 #[.int .i64 c, .int .i64 k] w fun e w' => e = .returned (sizV c k) ∧ w = w' := by
  cases h : isCls c with
  | false => exact rSiz_no c k h w
  | true =>
    by_cases hk : k < 1 ∨ 255 < k
    · exact rSiz_few c k h hk w
    · obtain ⟨C, rfl⟩ : ∃ C : Nat, c = (C : Int) := ⟨c.toNat, by have := isCls_cases h; omega⟩
      obtain ⟨q, rfl⟩ : ∃ q : Nat, k = (q : Int) := ⟨k.toNat, by omega⟩
      exact rSiz_yes C q h (by omega) (by omega) w
end Go.Proofs.YtibcjbelcplpjaaDoor
/-
  Contract of layer 13, the document's own: is a frame right? No statement of the seed is proved here.
-/
namespace Go.Proofs.YtibcjbelcplpjaaDoor
open Go.RowKit
set_option linter.unusedVariables false

theorem sizV_pair (c k : Int) (hk : 1 ≤ k) (hk2 : k ≤ 255) : ∃ x y : Int, sizV c k = .tuple #[.int .i64 x, .int .i64 y] ∧ (isCls c = true → x = (sizN c.toNat k.toNat : Nat) ∧ y = 0) ∧ (isCls c = false → y = 14) := by
  cases h : isCls c with
  | true => exact ⟨_, _, sizV_yes h hk hk2, fun _ => ⟨rfl, rfl⟩, by simp⟩
  | false => exact ⟨_, _, sizV_no (by rw [h]; simp), by simp, fun _ => rfl⟩
theorem frRight_nums {f : Fr} (h : ¬ (1 ≤ f.cnt ∧ f.cnt ≤ 255 ∧ 1 ≤ f.kk ∧ f.kk ≤ f.cnt ∧ 0 ≤ f.idx ∧ f.idx < f.cnt)) : frRight f = false := by
  cases h1 : frRight f with
  | false => rfl
  | true => exact absurd (frRight_iff.1 h1).1 h
theorem frRight_rest {f : Fr} (h : 1 ≤ f.cnt ∧ f.cnt ≤ 255 ∧ 1 ≤ f.kk ∧ f.kk ≤ f.cnt ∧ 0 ≤ f.idx ∧ f.idx < f.cnt) : frRight f = (isCls f.cls && decide (sizN f.cls.toNat f.kk.toNat = f.piece.length)) := by
  unfold frRight
  rw [frNums_iff.2 h, Bool.true_and]

set_option maxRecDepth 100000 in
set_option maxHeartbeats 4000000 in
theorem rRi_any (f : Fr) (A : Option Addr) (n c : Nat) (w : World) (h : FrAt w f A n c) : Calls Tryd.prog 14 #[.agg (frc f A n c).toArray] w fun e w' => e = .returned (.bool (frRight f)) ∧ Kept [] w w' := by
  have hB := FrB.new w f A n c h.obj
  have hk : Kept [] w (w.alloc (.cells (frc f A n c).toArray 28)) := (Kept.refl [] w).alloc _
  have d1 := hB.idx
  have d2 := hB.cnt
  have d3 := hB.kk
  have d4 := hB.cls
  have d5 := hB.piece
  obtain ⟨g, hg⟩ : ∃ g, g = w.heap.size := ⟨_, rfl⟩
  rw [← hg] at d1 d2 d3 d4 d5
  have Hg := Lib.hid hg
  have Hx : Hid (∀ m : Nat, ((m : Int) == (n : Int)) = decide (m = f.piece.length)) := Lib.hid (fun m => by rw [h.piece.len, Bool.eq_iff_iff]; simp; omega)
  have b1 := h.piece.cap
  have b2 := h.piece.most
  unfold maxLen at b2
  have HK := Lib.hid hk
  obtain ⟨L, hL⟩ : ∃ L, frc f A n c = L := ⟨_, rfl⟩
  rw [hL] at d1 d2 d3 d4 d5 HK ⊢
  clear hB hk hg h hL
  by_cases hn : 1 ≤ f.cnt ∧ f.cnt ≤ 255 ∧ 1 ≤ f.kk ∧ f.kk ≤ f.cnt ∧ 0 ≤ f.idx ∧ f.idx < f.cnt
  · have HR := Lib.hid (frRight_rest hn)
    obtain ⟨z1, z2, z3, z4, z5, z6⟩ := hn
    obtain ⟨x, y, hS, hy, hno⟩ := sizV_pair f.cls f.kk z3 (by omega)
    have HS := Lib.hid hS
    have Hy := Lib.hid hy
    have Hno := Lib.hid hno
    have y1 : ¬ f.cnt < 1 := by omega
    have y2 : ¬ 255 < f.cnt := by omega
    have y3 : ¬ f.kk < 1 := by omega
    have y4 : ¬ f.cnt < f.kk := by omega
    have y5 : ¬ f.idx < 0 := by omega
    have y6 : ¬ f.cnt ≤ f.idx := by omega
    clear hS hy hno
    rw [HR.out]
    go_enter Tryd.func14, Tryd.ntmps14
    go_wp2_with (with_reducible change wpList _ _ _ (⟨_, Op.box _ _, _, _, _, _⟩ :: _) _ _; refine Great.wpList_boxTo rfl 28 _ rfl _ rfl g Hg.out.symm L.toArray rfl ?_; generalize w.alloc (.cells L.toArray 28) = w1 at *)
    refine (rSiz_any f.cls f.kk _).mono ?_
    rw [HS.out]
    rintro e w' ⟨rfl, rfl⟩
    cases hc : isCls f.cls with
    | true =>
      obtain ⟨rfl, rfl⟩ := Hy.out hc
      go_wp2
      go_ret
      exact ⟨ret_bool (by rw [hc, Bool.true_and]; exact Hx.out _), HK.out⟩
    | false =>
      obtain rfl := Hno.out hc
      go_wp2
      go_ret
      exact ⟨ret_bool (by rw [hc, Bool.false_and]), HK.out⟩
  · rw [frRight_nums hn]
    rcases (by omega : f.cnt < 1 ∨ (1 ≤ f.cnt ∧ 255 < f.cnt) ∨ (1 ≤ f.cnt ∧ f.cnt ≤ 255 ∧ f.kk < 1) ∨ (1 ≤ f.cnt ∧ f.cnt ≤ 255 ∧ 1 ≤ f.kk ∧ f.cnt < f.kk) ∨ (1 ≤ f.cnt ∧ f.cnt ≤ 255 ∧ 1 ≤ f.kk ∧ f.kk ≤ f.cnt ∧ f.idx < 0) ∨ (1 ≤ f.cnt ∧ f.cnt ≤ 255 ∧ 1 ≤ f.kk ∧ f.kk ≤ f.cnt ∧ 0 ≤ f.idx ∧ f.cnt ≤ f.idx)) with q1 | ⟨q1, q2⟩ | ⟨q1, q2, q3⟩ | ⟨q1, q2, q3, q4⟩ | ⟨q1, q2, q3, q4, q5⟩ | ⟨q1, q2, q3, q4, q5, q6⟩
    all_goals
      clear hn
      go_enter Tryd.func14, Tryd.ntmps14
      go_wp2_with (with_reducible change wpList _ _ _ (⟨_, Op.box _ _, _, _, _, _⟩ :: _) _ _; refine Great.wpList_boxTo rfl 28 _ rfl _ rfl g Hg.out.symm L.toArray rfl ?_; generalize w.alloc (.cells L.toArray 28) = w1 at *)
      go_ret
      exact ⟨rfl, HK.out⟩
end Go.Proofs.YtibcjbelcplpjaaDoor
/-
  The document's width of a number. No statement of the seed is proved here.
-/
namespace Go.Proofs.YtibcjbelcplpjaaDoor
open Go.RowKit
set_option linter.unusedVariables false

theorem Kept.of_drewN (w : World) (n : Nat) : Kept [] w (w.drewN n) := (Kept.refl [] w).drewN n

theorem width_any (x : Int) (w : World) (h0 : 0 ≤ x) (h1 : x ≤ 18446744073709551615) :
    Calls Tryd.prog 67 #[.int .u64 x] w fun e w' => e = .returned (.int .i64 (wid x.toNat)) ∧ w = w' := by
  go_enter Tryd.func67, Tryd.ntmps67
  go_wp2
  go_loop [0, 3] (fun y n => ∃ (z : Int) (k : Nat), y = .int .u64 z ∧ n = .int .i64 k ∧ 0 ≤ z ∧ z ≤ 18446744073709551615 ∧ k + wid z.toNat = wid x.toNat + 1) (fun y _ => (intOf y).toNat)
  case atStart => exact ⟨x, 1, rfl, rfl, h0, h1, by omega⟩
  case round =>
    obtain ⟨z, k, rfl, rfl, z0, z1, hz⟩ := hrel
    have hp := wid_pos x.toNat
    have hp2 := wid_pos z.toNat
    by_cases hlt : 255 < z
    · have hs : wid (z / 256).toNat + 1 = wid z.toNat := by
        have e : (z / 256).toNat = z.toNat / 256 := by omega
        rw [e]
        exact wid_div _ (by omega) (by omega)
      have H := Lib.hid hz
      have H2 := Lib.hid hs
      have hk8 : k ≤ 9 := by omega
      clear hz hs
      go_wp2
      go_round
      case rel => exact ⟨z / 256, k + 1, rfl, by go_num, by omega, by omega, by have := H.out; have := H2.out; omega⟩
      case measure => simp [intOf]; omega
    · have hs : wid z.toNat = 1 := by unfold wid; rw [if_pos (by omega)]
      have e : k = wid x.toNat := by omega
      have H := Lib.hid hz
      clear hz
      go_wp2
      go_ret
      exact ⟨ret_int (by omega), rfl⟩
end Go.Proofs.YtibcjbelcplpjaaDoor
/-
  Contract of the document's own bytes of a number. No statement of the seed is proved here.
-/
namespace Go.Proofs.YtibcjbelcplpjaaDoor
open Go.RowKit
set_option linter.unusedVariables false

theorem be_cons : ∀ (k x : Nat), be (k + 1) x = UInt8.ofNat (x / 256 ^ k) :: be k x
  | 0, x => by simp [be]
  | k + 1, x => by
    rw [be, be_cons k (x / 256), be, Nat.div_div_eq_div_mul, ← Nat.pow_succ']
    rfl
theorem set_rep (m : Nat) (b : UInt8) (l : List UInt8) : (List.replicate (m + 1) 0 ++ l).set m b = List.replicate m 0 ++ (b :: l) := by
  rw [List.replicate_succ', List.append_assoc, List.set_append_right _ _ (by simp)]
  simp

set_option maxRecDepth 100000 in
theorem rfBytes_any (x : Int) (n : Nat) (w : World) (h0 : 0 ≤ x) (h1 : x ≤ 18446744073709551615) (hn : n ≤ 8) :
    Calls Tryd.prog 44 #[.int .u64 x, .int .i64 n] w (CloneRet (be n x.toNat) w) := by
  obtain ⟨i0, hi, hz0, hz1, hz2⟩ := info_parts u8info
  go_enter Tryd.func44, Tryd.ntmps44
  go_wp2_with (refine wpList_make_bytes rfl (.tmp 7) (.tmp 7) 26 rfl 5 i0 Tryd.underlying26 hi hz0 hz1 hz2 _ _ _ _ n rfl rfl rfl rfl (by omega) ?_; intro w1 hown1 hk1)
  go_loopw [0, 6] (fun y i wr => ∃ (k : Nat) (z : Int), k ≤ n ∧ i = .int .i64 ((n : Int) - 1 - k) ∧ y = .int .u64 z ∧ 0 ≤ z ∧ z ≤ 18446744073709551615 ∧ z.toNat = x.toNat / 256 ^ k ∧ OwB 5 wr (.slice (some ⟨w.heap.size, 0, none⟩) n n) (List.replicate (n - k) 0 ++ be k x.toNat) ∧ Kept [] w wr) (fun _ i _ => (intOf i + 1).toNat)
  case atStart => exact ⟨0, x, by omega, by simp, rfl, h0, h1, by simp, by simpa [be] using hown1, hk1⟩
  case round =>
    obtain ⟨k, z, hk, rfl, rfl, z0, z1, hz, hown, hkw⟩ := hrel
    have HZ := Lib.hid hz
    clear hz
    by_cases hlt : k < n
    · have hfz := hown.fz (n - 1 - k)
      have hlt2 := hown.lt
      have hrd := hown.rd
      obtain ⟨b, off, y, e1, c1, _, _⟩ := hrd.byte (k := n - 1 - k) (by omega)
      simp only [Option.some.injEq, Addr.mk.injEq] at e1
      obtain ⟨rfl, rfl, _⟩ := e1
      rw [Nat.zero_add] at c1
      have hnew := hown.set (n - 1 - k) (UInt8.ofNat (x.toNat / 256 ^ k))
      have he : n - k = (n - 1 - k) + 1 := by omega
      rw [he, set_rep, ← be_cons] at hnew
      have hb : bcell (UInt8.ofNat (x.toNat / 256 ^ k)) = .int .u8 (z % 256) := by
        unfold bcell; rw [ofNat_toNat, ← HZ.out]; congr 1; omega
      rw [hb] at hnew
      have hkn : Kept [] w (wr.setCell ⟨w.heap.size, n - 1 - k, none⟩ (.int .u8 (z % 256))) := hkw.setCell (by simp) _
      clear hb he
      go_wp2
      go_roundw
      case rel =>
        refine ⟨k + 1, z / 256, by omega, congrArg _ (by omega), rfl, by omega, by omega, ?_, ?_, hkn⟩
        · have := HZ.out
          rw [Nat.pow_succ, ← Nat.div_div_eq_div_mul, ← this]; omega
        · have e : n - (k + 1) = n - 1 - k := by omega
          rw [e]; exact hnew
      case measure => simp [intOf]; omega
    · obtain rfl : k = n := by omega
      go_wp2
      go_ret
      exact ⟨_, rfl, by simpa using hown, hkw, by simp [Value.ownBlock]⟩

theorem ownBlock_new {e : TypeId} {w w' : World} {v v' : Value} {B : Nat} (hm : Moved w v v') (hB : B ≤ w.heap.size) (hv : ∀ g, v.ownBlock = some g → B ≤ g) : ∀ g, v'.ownBlock = some g → B ≤ g := by
  intro g hg
  rcases hm g hg with h | h
  · exact hv g h
  · omega

end Go.Proofs.YtibcjbelcplpjaaDoor
/-
  Contracts of the document's own answers of layer 1: the bytes of a small number, of a text. No statement of the seed is proved here.
-/
namespace Go.Proofs.YtibcjbelcplpjaaDoor
open Go.RowKit
set_option linter.unusedVariables false

/-- Bytes that are told anew, and a number: how the document's own answers come. -/
def RefRet (news : List UInt8) (er : Nat) (w : World) (e : Ending) (w' : World) : Prop :=
  ∃ v, e = .returned (.tuple #[v, .int .i64 er]) ∧ OwB 5 w' v news ∧ Kept [] w w' ∧ ∀ g, v.ownBlock = some g → w.heap.size ≤ g

/-- The bytes of a small number, and the error. -/
def psmall (x : Nat) : List UInt8 × Nat := if 4294967296 ≤ x then ([], 3) else (sm x, 0)

set_option maxRecDepth 100000 in
theorem rfSmall_any (x : Int) (w : World) (h0 : 0 ≤ x) (h1 : x ≤ 18446744073709551615) : Calls Tryd.prog 62 #[.int .u64 x] w (RefRet (psmall x.toNat).1 (psmall x.toNat).2 w) := by
  obtain ⟨i0, hi, hz0, hz1, hz2⟩ := info_parts u8info
  by_cases hx : 4294967296 ≤ x
  · have hp : psmall x.toNat = ([], 3) := by unfold psmall; rw [if_pos (by omega)]
    rw [hp]
    clear hp
    go_enter Tryd.func62, Tryd.ntmps62
    go_wp2
    go_ret2
    exact ⟨_, rfl, OwB.nil _ _, Kept.refl _ _, by simp [Value.ownBlock]⟩
  · have hp : psmall x.toNat = (sm x.toNat, 0) := by unfold psmall; rw [if_neg (by omega)]
    rw [hp]
    clear hp
    by_cases hlo : x ≤ 250
    · have hs : sm x.toNat = [UInt8.ofNat x.toNat] := by unfold sm; rw [if_pos (by omega)]
      rw [hs]
      clear hs
      have hr : RdB (w.alloc (.cells #[.int .u8 x] 5)) (some ⟨w.heap.size, 0, none⟩) 1 1 [UInt8.ofNat x.toNat] := RdB.one _ _ _ _ (by rw [ofNat_toNat]; omega)
      go_enter Tryd.func62, Tryd.ntmps62
      go_wp2_with (at_builtin; refine wpList_append_bytes rfl (.tmp 10) (.tmp 13) 26 rfl 5 i0 _ 1 Tryd.underlying26 hi hz0 hz1 hz2 rfl (.slice none 0 0) [] rfl (OwB.nil _ _) _ 1 1 _ rfl hr (by simp [maxLen]) (by simp) ?_; intro v1 w1 hown1 hk1 hm1; obtain ⟨A1, n1, c1, rfl, hrd1, hbl1⟩ := hown1.form)
      go_ret2
      refine ⟨_, rfl, by simpa using hown1, ((Kept.refl [] w).alloc _).andThen (by simpa [Value.ownBlock] using hk1), ?_⟩
      exact ownBlock_new (e := 5) (w' := w) hm1 (by simp) (by simp [Value.ownBlock])
    · have hp8 := wid_pos x.toNat
      have hs : sm x.toNat = [UInt8.ofNat (250 + wid x.toNat)] ++ be (wid x.toNat) x.toNat := by unfold sm; rw [if_neg (by omega)]; rfl
      rw [hs]
      clear hs
      go_enter Tryd.func62, Tryd.ntmps62
      go_wp2_with fail
      refine (width_any _ _ h0 h1).mono ?_
      rintro e w' ⟨rfl, rfl⟩
      have hr : RdB (w.alloc (.cells #[.int .u8 ((250 + (wid x.toNat : Int)) % 256)] 5)) (some ⟨w.heap.size, 0, none⟩) 1 1 [UInt8.ofNat (250 + wid x.toNat)] := RdB.one _ _ _ _ (by rw [ofNat_toNat]; omega)
      go_wp2_with (at_builtin; refine wpList_append_bytes rfl (.tmp 18) (.tmp 22) 26 rfl 5 i0 _ 1 Tryd.underlying26 hi hz0 hz1 hz2 rfl (.slice none 0 0) [] rfl (OwB.nil _ _) _ 1 1 _ rfl hr (by simp [maxLen]) (by simp) ?_; intro v1 w1 hown1 hk1 hm1; obtain ⟨A1, n1, c1, rfl, hrd1, hbl1⟩ := hown1.form)
      have hkw : Kept [] w w1 := ((Kept.refl [] w).alloc _).andThen (by simpa [Value.ownBlock] using hk1)
      have hnew := ownBlock_new (e := 5) (w' := w) (B := w.heap.size) hm1 (by simp) (by simp [Value.ownBlock])
      refine (rfBytes_any x _ _ h0 h1 (by omega)).mono ?_
      rintro e w2 ⟨v2, rfl, ho2, hk2, hf2⟩
      obtain ⟨A2, n2, c2, rfl, hrd2, hbl2⟩ := ho2.form
      have hown2 : OwB 5 w2 (.slice A1 n1 c1) [UInt8.ofNat (250 + wid x.toNat)] := by simpa using hown1.kept0 hk2
      have hl2 := hrd2.len
      rw [be_length] at hl2
      have hn2 : n2 ≤ 8 := by omega
      clear hl2
      go_wp2_with (at_builtin; refine wpList_append_bytes rfl (.tmp 24) (.tmp 27) 26 rfl 5 i0 _ 1 Tryd.underlying26 hi hz0 hz1 hz2 rfl (.slice A1 n1 c1) [UInt8.ofNat (250 + wid x.toNat)] rfl hown2 A2 n2 c2 _ rfl hrd2 (by simp [maxLen]; omega) (by simp; omega) ?_; intro v3 w3 hown3 hk3 hm3; obtain ⟨A3, n3, c3, rfl, hrd3, hbl3⟩ := hown3.form)
      go_ret2
      refine ⟨_, rfl, hown3, (hkw.andThen hk2).trans hk3 ?_, ?_⟩
      · intro g hg
        exact .inr (hnew g (by simpa using hg))
      · exact ownBlock_new (e := 5) (w' := w) hm3 (hkw.andThen hk2).size hnew

set_option maxRecDepth 100000 in
theorem rfText_any (A : Option Addr) (n c : Nat) (bs : List UInt8) (w : World) (hr : RdB w A n c bs) (hn : n ≤ 65536) : Calls Tryd.prog 45 #[.slice A n c] w (RefRet (sm n ++ bs) 0 w) := by
  obtain ⟨i0, hi, hz0, hz1, hz2⟩ := info_parts u8info
  have hp : psmall n = (sm n, 0) := by unfold psmall; rw [if_neg (by omega)]
  go_enter Tryd.func45, Tryd.ntmps45
  go_wp2_with fail
  refine (rfSmall_any n _ (by omega) (by omega)).mono ?_
  rw [Int.toNat_natCast, hp]
  clear hp
  rintro e w1 ⟨v1, rfl, ho1, hk1, hf1⟩
  obtain ⟨A1, n1, c1, rfl, hrd1, hbl1⟩ := ho1.form
  have hr1 := hr.kept0 hk1
  have hl := sm_length n
  have hf : fol n ≤ 8 := by unfold fol; split; omega; exact (wid_pos n).2
  have hs1 := hk1.size
  go_wp2_with (at_builtin; refine wpList_append_bytes rfl (.tmp 16) (.tmp 17) 26 rfl 5 i0 _ 1 Tryd.underlying26 hi hz0 hz1 hz2 rfl (.slice A1 n1 c1) (sm n) rfl ho1 A n c _ rfl hr1 (by simp only [maxLen]; omega) (by omega) ?_; intro v3 w3 hown3 hk3 hm3; obtain ⟨A3, n3, c3, rfl, hrd3, hbl3⟩ := hown3.form)
  go_ret2
  refine ⟨_, rfl, hown3, hk1.trans hk3 ?_, ?_⟩
  · intro g hg
    exact .inr (hf1 g (by simpa using hg))
  · exact ownBlock_new (e := 5) (w' := w) hm3 hs1 hf1
end Go.Proofs.YtibcjbelcplpjaaDoor
/-
  Contract of layer 13, the document's own: a frame's bytes, but for the tag. No statement of the seed is proved here.
-/
namespace Go.Proofs.YtibcjbelcplpjaaDoor
open Go.RowKit
set_option linter.unusedVariables false

theorem frPlain_parts (f : Fr) : frPlain f = (241 :: f.obj) ++ ([UInt8.ofNat f.idx.toNat, UInt8.ofNat f.cnt.toNat, UInt8.ofNat f.kk.toNat] ++ (be 2 f.cls.toNat ++ (sm f.piece.length ++ f.piece))) := by unfold frPlain; simp

set_option maxRecDepth 100000 in
set_option maxHeartbeats 4000000 in
theorem rPl_any (f : Fr) (A : Option Addr) (n c : Nat) (w : World) (h : FrAt w f A n c) (hr : frRight f = true) : Calls Tryd.prog 24 #[.agg (frc f A n c).toArray] w (CloneRet (frPlain f) w) := by
  obtain ⟨i0, hi, hz0, hz1, hz2⟩ := info_parts u8info
  obtain ⟨⟨a1, a2, a3, a4, a5, a6⟩, a7, a8, a9⟩ := frRight_facts hr
  have hP := frPlain_parts f
  have hB := FrB.new w f A n c h.obj
  have hk : Kept [] w (w.alloc (.cells (frc f A n c).toArray 28)) := (Kept.refl [] w).alloc _
  obtain ⟨g, hg⟩ : ∃ g, g = w.heap.size := ⟨_, rfl⟩
  rw [← hg] at hB
  have Hg := Lib.hid hg
  have HK := Lib.hid hk
  have HB := Lib.hid hB
  have Hobj : Hid (∀ w' g', FrB w' g' f A n c → ∀ j b, f.obj[j]? = some b → w'.cell? ⟨g', j, none⟩ = some (.int .u8 (b.toNat : Int))) := Lib.hid (fun w' g' hb j b e => hb.objAt e)
  have Hc1 : Hid (∀ w' g', FrB w' g' f A n c → w'.cell? ⟨g', 16, none⟩ = some (.int .i64 f.idx) ∧ w'.cell? ⟨g', 17, none⟩ = some (.int .i64 f.cnt) ∧ w'.cell? ⟨g', 18, none⟩ = some (.int .i64 f.kk) ∧ w'.cell? ⟨g', 19, none⟩ = some (.int .i64 f.cls) ∧ w'.cell? ⟨g', 20, none⟩ = some (.slice A n c)) :=
    Lib.hid (fun w' g' hb => ⟨hb.idx, hb.cnt, hb.kk, hb.cls, hb.piece⟩)
  have HRp := Lib.hid h.piece
  have Hol := Lib.hid h.obj
  have Hpl := Lib.hid h.piece.len
  have b1 := h.piece.cap
  have b2 := h.piece.most
  unfold maxLen at b2
  have hn : n ≤ 1072 := by rw [← h.piece.len]; exact a9
  have H3 : Hid (#[Value.int .u8 f.idx, .int .u8 f.cnt, .int .u8 f.kk] = (bvs [UInt8.ofNat f.idx.toNat, UInt8.ofNat f.cnt.toNat, UInt8.ofNat f.kk.toNat]).toArray) := Lib.hid (by
    unfold bvs
    simp only [List.map_cons, List.map_nil]
    unfold bcell
    rw [u8_back a5 (by omega), u8_back (by omega) a2, u8_back (by omega) (by omega)])
  obtain ⟨L, hL⟩ : ∃ L, frc f A n c = L := ⟨_, rfl⟩
  obtain ⟨X, hX⟩ : ∃ X, frPlain f = X := ⟨_, rfl⟩
  rw [hL] at HK ⊢
  rw [hX] at hP ⊢
  obtain ⟨FB, hFB⟩ : ∃ FB : World → Nat → Prop, FB = fun w' g' => FrB w' g' f A n c := ⟨_, rfl⟩
  have HFk : Hid (∀ w' w'' g' S, FB w' g' → Kept S w' w'' → g' ∉ S → FB w'' g') := Lib.hid (by rw [hFB]; exact fun w' w'' g' S h1 h2 h3 => h1.kept h2 h3)
  have Hobj2 : Hid (∀ w' g', FB w' g' → ∀ j b, f.obj[j]? = some b → w'.cell? ⟨g', j, none⟩ = some (.int .u8 (b.toNat : Int))) := Lib.hid (by rw [hFB]; exact Hobj.out)
  have Hc2 : Hid (∀ w' g', FB w' g' → w'.cell? ⟨g', 16, none⟩ = some (.int .i64 f.idx) ∧ w'.cell? ⟨g', 17, none⟩ = some (.int .i64 f.cnt) ∧ w'.cell? ⟨g', 18, none⟩ = some (.int .i64 f.kk) ∧ w'.cell? ⟨g', 19, none⟩ = some (.int .i64 f.cls) ∧ w'.cell? ⟨g', 20, none⟩ = some (.slice A n c)) := Lib.hid (by rw [hFB]; exact Hc1.out)
  have HB2 : Hid (FB (w.alloc (.cells L.toArray 28)) g) := Lib.hid (by rw [hFB, ← hL]; exact HB.out)
  have HS1 : Hid (g < (w.alloc (.cells L.toArray 28)).heap.size) := Lib.hid (by simp; omega)
  rcases f with ⟨O, zi, zc, zk, zl, T⟩
  simp only at Hobj2 Hc2 HRp Hol Hpl H3 hP a1 a2 a3 a4 a5 a6 a7 a8
  obtain ⟨Y3, hY3⟩ : ∃ Y3, [UInt8.ofNat zi.toNat, UInt8.ofNat zc.toNat, UInt8.ofNat zk.toNat] = Y3 := ⟨_, rfl⟩
  have HY3 : Hid (Y3.length = 3) := Lib.hid (by rw [← hY3]; rfl)
  rw [hY3] at H3 hP
  have HP := Lib.hid hP
  have Hbl : Hid ((be 2 zl.toNat).length = 2) := Lib.hid (be_length _ _)
  obtain ⟨E2, hE2⟩ : ∃ E2, be 2 zl.toNat = E2 := ⟨_, rfl⟩
  rw [hE2] at HP Hbl
  have HE2 := Lib.hid hE2
  have Hsl : Hid ((sm n ++ T).length ≤ 1100) := Lib.hid (by
    have := sm_length n
    have hf : fol n ≤ 8 := by unfold fol; split; omega; exact (wid_pos n).2
    rw [List.length_append, this, Hpl.out]
    omega)
  rw [Hpl.out] at HP
  clear hY3 hE2
  have Hgw : Hid (w.heap.size ≤ g) := Lib.hid (by omega)
  clear hB hk hg h hL hX hr a9 HB Hobj Hc1 hFB hP
  go_enter Tryd.func24, Tryd.ntmps24
  go_wp2_with (first
    | (with_reducible change wpList _ _ _ (⟨_, Op.box _ _, _, _, _, _⟩ :: _) _ _; refine Great.wpList_boxTo rfl 28 _ rfl _ rfl g Hg.out.symm L.toArray rfl ?_; generalize w.alloc (.cells L.toArray 28) = w1 at *)
    | (at_builtin; refine wpList_append_bytes rfl (.tmp 7) (.tmp 8) 26 rfl 5 i0 _ 1 Tryd.underlying26 hi hz0 hz1 hz2 rfl (.slice none 0 0) [] rfl (OwB.nil _ _) _ 1 1 [241] rfl (RdB.one _ _ _ _ rfl) (by simp [maxLen]) (by simp) ?_))
  intro v2 w2 ho2 hk2 hm2
  obtain ⟨hK2, hb2⟩ := app_new ((Kept.refl [] w1).alloc _) (by simp [Value.ownBlock]) hk2 hm2
  have hF2 := HFk.out _ _ g _ HB2.out hK2 (by simp)
  obtain ⟨A2, n2, c2, rfl, _, _⟩ := ho2.form
  clear hk2 hm2
  go_wp2
  go_loopw [3, 4] (fun v i wr => ∃ (k : Nat) (A3 : Option Addr) (n3 c3 : Nat), k ≤ 16 ∧ v = .slice A3 n3 c3 ∧ i = .int .i64 (k : Int) ∧ OwB 5 wr (.slice A3 n3 c3) (241 :: O.take k) ∧ Hid (Kept [] w1 wr) ∧ Hid (∀ q, (Value.slice A3 n3 c3).ownBlock = some q → w1.heap.size ≤ q) ∧ FB wr g) (fun _ i _ => 16 - (intOf i).toNat)
  case atStart => exact ⟨0, A2, n2, c2, by omega, rfl, rfl, by simpa using ho2, Lib.hid hK2, Lib.hid hb2, hF2⟩
  case round =>
    obtain ⟨k, A3, n3, c3, hk, rfl, rfl, ho3, HK3, Hb3, hF3⟩ := hrel
    clear ho2 hK2 hb2 hF2
    by_cases hlt : k < 16
    · obtain ⟨y, hy⟩ : ∃ y, O[k]? = some y := ⟨O[k]'(by have := Hol.out; omega), List.getElem?_eq_getElem _⟩
      have d1 := Hobj2.out _ _ hF3 k y hy
      have HT := Lib.hid (take_step O k y hy)
      have Hkl : Hid ((241 :: O.take k).length = k + 1) := Lib.hid (by rw [List.length_cons, List.length_take]; have := Hol.out; omega)
      have HO3 := Lib.hid ho3
      have HA3 : Hid (Kept [] wr (wr.alloc (.cells #[.int .u8 (y.toNat : Int)] 5))) := Lib.hid ((Kept.refl [] wr).alloc _)
      have HF3 := Lib.hid hF3
      clear hy ho3 hF3
      go_wp2_with (at_builtin; refine wpList_append_bytes rfl (.tmp 14) (.tmp 19) 26 rfl 5 i0 _ 1 Tryd.underlying26 hi hz0 hz1 hz2 rfl (.slice A3 n3 c3) (241 :: O.take k) rfl (HO3.out.alloc _) _ 1 1 [y] rfl (RdB.one _ _ _ _ rfl) (by rw [Hkl.out]; simp [maxLen]; omega) (by rw [Hkl.out]; omega) ?_)
      intro v4 w4 ho4 hk4 hm4
      obtain ⟨hK4, hb4⟩ := app_new (HK3.out.andThen HA3.out) Hb3.out hk4 hm4
      have hgS : g ∉ (Value.slice A3 n3 c3).ownBlock.toList := fun hm => by
        have h1 := Hb3.out g (by simpa using hm)
        have h2 := HS1.out
        omega
      have hF4 := HFk.out _ _ g _ (HFk.out _ _ g [] HF3.out HA3.out (by simp)) hk4 hgS
      obtain ⟨A4, n4, c4, rfl, _, _⟩ := ho4.form
      have ho5 : OwB 5 w4 (.slice A4 n4 c4) (241 :: O.take (k + 1)) := by rw [HT.out]; simpa using ho4
      have HK4 := Lib.hid hK4
      have Hb4 := Lib.hid hb4
      clear hk4 hm4 hgS ho4 hK4 hb4 HF3 HO3 HA3 HK3 Hb3 Hkl HT
      go_wp2
      go_roundw
      case rel => exact ⟨k + 1, A4, n4, c4, by omega, rfl, by go_num, ho5, HK4, Hb4, hF4⟩
      case measure => simp [intOf]; omega
    · obtain rfl : k = 16 := by omega
      rw [List.take_of_length_le (by have := Hol.out; omega)] at ho3
      obtain ⟨d1, d2, d3, d4, d5⟩ := Hc2.out _ _ hF3
      have HF3 := Lib.hid hF3
      have HO3 := Lib.hid ho3
      have Hl3 : Hid ((241 :: O).length = 17) := Lib.hid (by rw [List.length_cons, Hol.out])
      have y1 : IntKind.u8.wrap zi = zi := by rw [IntWalk.u8_in _ (by omega)]
      have y2 : IntKind.u8.wrap zc = zc := by rw [IntWalk.u8_in _ (by omega)]
      have y3 : IntKind.u8.wrap zk = zk := by rw [IntWalk.u8_in _ (by omega)]
      have HA3 : Hid (Kept [] wr (wr.alloc (.cells #[.int .u8 zi, .int .u8 zc, .int .u8 zk] 5))) := Lib.hid ((Kept.refl [] wr).alloc _)
      clear hF3 ho3
      go_wp2_with (at_builtin; refine wpList_append_bytes rfl (.tmp 21) (.tmp 31) 26 rfl 5 i0 _ 1 Tryd.underlying26 hi hz0 hz1 hz2 rfl (.slice A3 n3 c3) (241 :: O) rfl (HO3.out.alloc _) _ 3 3 Y3 rfl (RdB.lit _ _ _ 3 Y3 H3.out HY3.out (by simp [maxLen])) (by rw [Hl3.out]; simp [maxLen]) (by rw [Hl3.out]; omega) ?_)
      intro v4 w4 ho4 hk4 hm4
      obtain ⟨hK4, hb4⟩ := app_new (HK3.out.andThen HA3.out) Hb3.out hk4 hm4
      have hgS : g ∉ (Value.slice A3 n3 c3).ownBlock.toList := fun hm => by
        have h1 := Hb3.out g (by simpa using hm)
        have h2 := HS1.out
        omega
      have hF4 := HFk.out _ _ g _ (HFk.out _ _ g [] HF3.out HA3.out (by simp)) hk4 hgS
      obtain ⟨A4, n4, c4, rfl, _, _⟩ := ho4.form
      obtain ⟨S4, hS4⟩ : ∃ S4, (241 :: O) ++ Y3 = S4 := ⟨_, rfl⟩
      have Hl4 : Hid (S4.length = 20) := Lib.hid (by rw [← hS4, List.length_append, Hl3.out, HY3.out])
      have HS4 := Lib.hid hS4
      have HO4 : Hid (OwB 5 w4 (.slice A4 n4 c4) S4) := Lib.hid (by rw [← hS4]; simpa using ho4)
      obtain ⟨_, _, _, d4', _⟩ := Hc2.out _ _ hF4
      have HF4 := Lib.hid hF4
      have HK4 := Lib.hid hK4
      have Hb4 := Lib.hid hb4
      clear hk4 hm4 hgS ho4 hK4 hb4 HF3 HO3 HA3 HK3 Hb3 hF4 hS4 d1 d2 d3 d4 d5 y1 y2 y3
      go_wp2_with fail
      refine (rfBytes_any zl 2 _ a7 (by omega) (by omega)).mono ?_
      rw [HE2.out]
      rintro e w5 ⟨v5, rfl, ho5, hk5, hf5⟩
      obtain ⟨A5, n5, c5, rfl, hr5, _⟩ := ho5.form
      obtain rfl : 2 = n5 := by rw [← hr5.len, Hbl.out]
      have HO5 := Lib.hid (HO4.out.kept0 hk5)
      have HR5 := Lib.hid hr5
      have HF5 := Lib.hid (HFk.out _ _ g _ HF4.out hk5 (by simp))
      have HK5 := Lib.hid (HK4.out.andThen hk5)
      clear ho5 hk5 hf5 hr5 HO4 HF4 HK4 d4'
      go_wp2_with (at_builtin; refine wpList_append_bytes rfl (.tmp 33) (.tmp 37) 26 rfl 5 i0 _ 1 Tryd.underlying26 hi hz0 hz1 hz2 rfl (.slice A4 n4 c4) S4 rfl HO5.out A5 2 c5 E2 rfl HR5.out (by rw [Hl4.out]; simp [maxLen]) (by rw [Hl4.out]; omega) ?_)
      intro v6 w6 ho6 hk6 hm6
      obtain ⟨hK6, hb6⟩ := app_new HK5.out Hb4.out hk6 hm6
      have hgS : g ∉ (Value.slice A4 n4 c4).ownBlock.toList := fun hm => by
        have h1 := Hb4.out g (by simpa using hm)
        have h2 := HS1.out
        omega
      have hF6 := HFk.out _ _ g _ HF5.out hk6 hgS
      obtain ⟨A6, n6, c6, rfl, _, _⟩ := ho6.form
      have Hl6 : Hid ((S4 ++ E2).length = 22) := Lib.hid (by rw [List.length_append, Hl4.out, Hbl.out])
      obtain ⟨_, _, _, _, d5'⟩ := Hc2.out _ _ hF6
      have HO6 := Lib.hid ho6
      have HF6 := Lib.hid hF6
      have HK6 := Lib.hid hK6
      have Hb6 := Lib.hid hb6
      clear hk6 hm6 hgS ho6 hK6 hb6 hF6 HO5 HR5 HF5 HK5 Hb4
      go_wp2_with fail
      refine (rfText_any A n c T _ (HRp.out.kept0 (HK.out.andThen HK6.out)) (by omega)).mono ?_
      rintro e w7 ⟨v7, rfl, ho7, hk7, hf7⟩
      obtain ⟨A7, n7, c7, rfl, hr7, _⟩ := ho7.form
      have hl7 := hr7.len
      have hn7 : n7 ≤ 1100 := by rw [← hl7]; exact Hsl.out
      have HR7 := Lib.hid hr7
      have HO7 := Lib.hid (HO6.out.kept0 hk7)
      have HK7 := Lib.hid (HK6.out.andThen hk7)
      clear ho7 hk7 hf7 hr7 hl7 HO6 HF6 HK6
      go_wp2_with (at_builtin; refine wpList_append_bytes rfl (.tmp 45) (.tmp 46) 26 rfl 5 i0 _ 1 Tryd.underlying26 hi hz0 hz1 hz2 rfl (.slice A6 n6 c6) (S4 ++ E2) rfl HO7.out A7 n7 c7 (sm n ++ T) rfl HR7.out (by rw [Hl6.out]; simp only [maxLen]; omega) (by rw [Hl6.out]; omega) ?_)
      intro v8 w8 ho8 hk8 hm8
      obtain ⟨hK8, hb8⟩ := app_new HK7.out Hb6.out hk8 hm8
      have ho9 : OwB 5 w8 v8 X := by
        rw [HP.out, ← List.append_assoc, ← List.append_assoc, HS4.out]
        simpa using ho8
      have HO9 := Lib.hid ho9
      have HK8 := Lib.hid (HK.out.andThen hK8)
      have Hb8 := Lib.hid hb8
      clear ho8 hk8 hm8 hK8 hb8 ho9
      go_wp2
      go_ret
      exact ⟨_, rfl, HO9.out, HK8.out, fun q hq => by have h1 := Hb8.out q hq; have h2 := HK.out.size; omega⟩
end Go.Proofs.YtibcjbelcplpjaaDoor
/-
  Contract of the document's own: two texts in one. No statement of the seed is proved here.
-/
namespace Go.Proofs.YtibcjbelcplpjaaDoor
open Go.RowKit
set_option linter.unusedVariables false

set_option maxRecDepth 100000 in
set_option maxHeartbeats 1000000 in
theorem rJoin_any (A A' : Option Addr) (n c n' c' : Nat) (xs ys : List UInt8) (w : World) (hr : RdB w A n c xs) (hp : RdB w A' n' c' ys) (hn : n ≤ 1000000) (hn' : n' ≤ 1000000) :
    Calls Tryd.prog 43 #[.slice A n c, .slice A' n' c'] w (CloneRet (xs ++ ys) w) := by
  obtain ⟨i0, hi, hz0, hz1, hz2⟩ := info_parts u8info
  have Hl := Lib.hid hr.len
  go_enter Tryd.func43, Tryd.ntmps43
  go_wp2_with (at_builtin; refine wpList_append_bytes rfl (.tmp 6) (.tmp 7) 26 rfl 5 i0 _ 1 Tryd.underlying26 hi hz0 hz1 hz2 rfl (.slice none 0 0) [] rfl (OwB.nil _ _) A n c xs rfl hr (by simp only [maxLen, List.length_nil]; omega) (by simp only [List.length_nil]; omega) ?_)
  intro v3 w3 ho3 hk3 hm3
  obtain ⟨hK3, hb3⟩ := app_new (Kept.refl [] w) (by simp [Value.ownBlock]) hk3 hm3
  obtain ⟨A3, n3, c3, rfl, _, _⟩ := ho3.form
  have Hb3 := Lib.hid hb3
  clear hk3 hm3 hb3
  go_wp2_with (at_builtin; refine wpList_append_bytes rfl (.tmp 9) (.tmp 10) 26 rfl 5 i0 _ 1 Tryd.underlying26 hi hz0 hz1 hz2 rfl (.slice A3 n3 c3) _ rfl ho3 A' n' c' ys rfl (hp.kept0 hK3) (by rw [Hl.out]; simp only [maxLen]; omega) (by rw [Hl.out]; omega) ?_)
  intro v4 w4 ho4 hk4 hm4
  obtain ⟨hK4, hb4⟩ := app_new hK3 Hb3.out hk4 hm4
  obtain ⟨A4, n4, c4, rfl, _, _⟩ := ho4.form
  clear hk4 hm4 ho3 hK3 Hb3
  go_wp2
  go_ret
  exact ⟨_, rfl, ho4, hK4, hb4⟩

end Go.Proofs.YtibcjbelcplpjaaDoor
/-
  Contracts of the small functions of layer 2 (sha): a word turned, a word of bytes. No statement of the seed is proved here.
-/
namespace Go.Proofs.YtibcjbelcplpjaaDoor
open Go.RowKit
set_option linter.unusedVariables false

theorem turn_any (x : W32) (n : Nat) (w : World) (h1 : 1 ≤ n) (h2 : n < 32) :
    Calls Tryd.prog 103 #[.int .u32 (wv x), .int .i64 n] w fun e w' => e = .returned (.int .u32 (wv (rotr x n))) ∧ ∃ m, w' = w.drewN m := by
  have b0 := wv_nonneg x
  have b1 := wv_lt x
  go_enter Tryd.func103, Tryd.ntmps103
  go_wp2
  go_quiet (fail)
  go_wp2
  go_ret
  exact ⟨ret_int (by rw [wv_shr, wv_shl, bits_orW]; rfl), nq, rfl⟩
theorem turn_at (x : W32) (n : Nat) (z : Int) (w : World) (hz : z = (n : Int)) (h1 : 1 ≤ n) (h2 : n < 32) :
    Calls Tryd.prog 103 #[.int .u32 (wv x), .int .i64 z] w fun e w' => e = .returned (.int .u32 (wv (rotr x n))) ∧ ∃ m, w' = w.drewN m := by
  subst hz; exact turn_any x n w h1 h2

theorem word_any (A : Option Addr) (n c : Nat) (bs : List UInt8) (w : World) (hr : RdB w A n c bs) (hn : 4 ≤ n) :
    Calls Tryd.prog 104 #[.slice A n c] w fun e w' => e = .returned (.int .u32 (wv (wd bs))) ∧ ∃ m, w' = w.drewN m := by
  obtain ⟨b0, off, y0, rfl, c0, h0, l0⟩ := hr.byte (k := 0) (by omega)
  obtain ⟨_, _, y1, e1, c1, h1, l1⟩ := hr.byte (k := 1) (by omega)
  obtain ⟨rfl, rfl⟩ : _ ∧ _ := by simpa using e1
  obtain ⟨_, _, y2, e2, c2, h2, l2⟩ := hr.byte (k := 2) (by omega)
  obtain ⟨rfl, rfl⟩ : _ ∧ _ := by simpa using e2
  obtain ⟨_, _, y3, e3, c3, h3, l3⟩ := hr.byte (k := 3) (by omega)
  obtain ⟨rfl, rfl⟩ : _ ∧ _ := by simpa using e3
  have hw4 : wd bs = wd [y0, y1, y2, y3] := by
    match bs, h0, h1, h2, h3 with
    | a :: b :: c :: d :: r, h0, h1, h2, h3 =>
      simp at h0 h1 h2 h3
      subst h0 h1 h2 h3
      simp [wd]
  have hcap := hr.cap
  rw [hw4]
  rw [Nat.add_zero] at c0
  clear e1 e2 e3 h0 h1 h2 h3 hw4
  go_enter Tryd.func104, Tryd.ntmps104
  go_wp2
  go_quiet (fail)
  go_wp2
  go_ret
  exact ⟨ret_int (word4 _ _ _ _), nq, rfl⟩
end Go.Proofs.YtibcjbelcplpjaaDoor
/-
  Contract of the function that tells a word in four bytes, layer 2 (sha). No statement of the seed is proved here.
-/
namespace Go.Proofs.YtibcjbelcplpjaaDoor
open Go.RowKit
set_option linter.unusedVariables false

theorem putWord_any (g off n c : Nat) (t : TypeId) (cs : List Value) (x : W32) (w : World) (hb : Blk w g t cs) (hn : 4 ≤ n) (hc : n ≤ c) (ho : off + 4 ≤ cs.length) :
    Calls Tryd.prog 101 #[.slice (some ⟨g, off, none⟩) n c, .int .u32 (wv x)] w (SetRet g t (splice cs off (bvs (be 4 x.toNat))) w) := by
  have hl4 := be_length 4 x.toNat
  have b0 := wv_nonneg x
  have b1 := wv_lt x
  go_enter Tryd.func101, Tryd.ntmps101
  go_wp2
  go_loopw [5] (fun i wr => ∃ k : Nat, k ≤ 4 ∧ i = .int .i64 k ∧ Blk wr g t (splice cs off (bvs ((be 4 x.toNat).take k))) ∧ Kept [g] w wr) (fun i _ => 4 - (intOf i).toNat)
  case atStart => exact ⟨0, by omega, rfl, by simpa [bvs, splice_nil] using hb, Kept.refl _ _⟩
  case round =>
    obtain ⟨k, hk, rfl, hB, hK⟩ := hrel
    by_cases hlt : k < 4
    · have hlen : (bvs ((be 4 x.toNat).take k)).length = k := by rw [bvs_length, List.length_take]; omega
      have hsl := length_splice cs off (bvs ((be 4 x.toNat).take k)) (by omega)
      have c1 := hB.cellD (off + k) (by omega)
      generalize (splice cs off (bvs ((be 4 x.toNat).take k)))[off + k]'(by omega) = u at c1
      have f1 := hB.frz (off + k)
      have hnew := hB.set (off + k) (bcell (UInt8.ofNat (x.toNat / 2 ^ (24 - 8 * k))))
      have hsn := splice_snoc cs off (bvs ((be 4 x.toNat).take k)) (bcell (UInt8.ofNat (x.toNat / 2 ^ (24 - 8 * k)))) (by omega)
      rw [hlen] at hsn
      rw [hsn] at hnew
      have htk : bvs ((be 4 x.toNat).take k) ++ [bcell (UInt8.ofNat (x.toNat / 2 ^ (24 - 8 * k)))] = bvs ((be 4 x.toNat).take (k + 1)) := by
        rw [take_step _ k _ (be4_get _ k hlt), bvs_append]; rfl
      rw [htk] at hnew
      have hbw := byteW x (24 - 8 * k)
      have hbc : bcell (UInt8.ofNat (x.toNat / 2 ^ (24 - 8 * k))) = .int .u8 (wv x / 2 ^ (24 - 8 * k) % 256) := by unfold bcell; rw [hbw]
      rw [hbc] at hnew
      have hkn : Kept [g] w (wr.setCell ⟨g, off + k, none⟩ (.int .u8 (wv x / 2 ^ (24 - 8 * k) % 256))) := hK.setCell (by simp) _
      clear hlen hsl hsn htk hbw hbc hB hb
      go_wp2
      go_roundw
      case rel => exact ⟨k + 1, by omega, by go_num, hnew, hkn⟩
      case measure => simp [intOf]; omega
    · obtain rfl : k = 4 := by omega
      rw [List.take_of_length_le (by omega)] at hB
      go_wp2
      go_end0
      exact ⟨rfl, hB, hK⟩
end Go.Proofs.YtibcjbelcplpjaaDoor
/-
  Contract of the function that makes a block's sixty-four words, layer 2 (sha). No statement of the seed is proved here.
-/
namespace Go.Proofs.YtibcjbelcplpjaaDoor
open Go.RowKit
set_option linter.unusedVariables false

/-- The cells of a digest under way. -/
def wkc (s : St) (blk : List UInt8) (held len : Int) : List Value := wvs s.l ++ (bvs blk ++ [.int .i64 held, .int .u64 len])
theorem wkc_length (s : St) (blk : List UInt8) (held len : Int) (hb : blk.length = 64) : (wkc s blk held len).length = 74 := by simp [wkc, wvs, bvs, St.l, hb]

theorem wkc_block (s : St) (blk : List UInt8) (held len : Int) (j : Nat) (hb : blk.length = 64) (hj : j ≤ 64) : ((wkc s blk held len).drop (8 + j)).take (64 - j) = bvs (blk.drop j) := by
  have e8 : (wvs s.l).length = 8 := rfl
  rw [wkc, List.drop_append, List.drop_of_length_le (by omega), List.nil_append, e8, Nat.add_sub_cancel_left, List.drop_append_of_le_length (by rw [bvs_length]; omega)]
  rw [List.take_append_of_le_length (by rw [List.length_drop, bvs_length]; omega), List.take_of_length_le (by rw [List.length_drop, bvs_length]; omega)]
  simp [bvs, List.map_drop]
theorem arr64b : Tryd.prog.underlying 108 = some (.array 64 5) := by kernel_rfl
theorem size1b : (Tryd.prog.info? 5).map (·.size) = some 1 := by kernel_rfl
theorem size64 : (Tryd.prog.info? 142).map (·.size) = some 64 := by kernel_rfl

/-- A row of words, filled from its head on. -/
def fill0 (l : List W32) : List Value := wvs l ++ List.replicate (64 - l.length) (.int .u32 0)
theorem fill0_length (l : List W32) (h : l.length ≤ 64) : (fill0 l).length = 64 := by simp [fill0, wvs]; omega
theorem fill0_set (l : List W32) (x : W32) (h : l.length < 64) : (fill0 l).set l.length (.int .u32 (wv x)) = fill0 (l ++ [x]) := by
  unfold fill0
  rw [List.set_append_right _ _ (by rw [wvs_length]; exact Nat.le_refl _), wvs_length, Nat.sub_self]
  have e : 64 - l.length = (64 - (l ++ [x]).length) + 1 := by rw [List.length_append, List.length_singleton]; omega
  rw [e, List.replicate_succ, List.set_cons_zero, wvs_append, List.append_assoc]
  rfl
theorem fill0_get (l : List W32) (j : Nat) (h : j < l.length) : (fill0 l)[j]? = some (.int .u32 (wv (l.getD j 0))) := by
  unfold fill0
  rw [List.getElem?_append_left (by rw [wvs_length]; exact h), wvs_get l j h]
theorem fill0_full (l : List W32) (h : l.length = 64) : fill0 l = wvs l := by simp [fill0, h]

theorem zero64 : (Tryd.prog.info? 142).bind (·.zero) = some (.agg (fill0 []).toArray) := by kernel_rfl
set_option maxRecDepth 100000 in
set_option maxHeartbeats 800000 in
theorem words_any (p : Nat) (s : St) (blk : List UInt8) (held len : Int) (w : World) (hb : Blk w p 135 (wkc s blk held len)) (h64 : blk.length = 64) :
    Calls Tryd.prog 102 #[.pointer (some ⟨p, 0, none⟩)] w (AggRet (words64 blk) w) := by
  have hplt := hb.lt
  go_enter Tryd.func102, Tryd.ntmps102
  go_wp2_with (with_reducible change wpList _ _ _ (⟨_, Op.alloc _, _, _, _, _⟩ :: _) _ _; refine wpList_alloc_blk rfl 142 rfl _ zero64 ?_)
  intro w1 hR1 hk1 hs1
  go_wp2_with (with_reducible change wpList _ _ _ (⟨_, Op.alloc _, _, _, _, _⟩ :: _) _ _; refine wpList_alloc_blk rfl 142 rfl _ zero64 ?_)
  intro w2 hG2 hk2 hs2
  have hR2 := hR1.kept0 hk2
  have hK2 := hk1.andThen hk2
  clear hR1 hk1 hk2 hs2
  go_wp2
  go_loopw [8] (fun i wr => ∃ k : Nat, k ≤ 16 ∧ i = .int .i64 k ∧ Blk wr (w.heap.size + 1) 142 (fill0 (first16 blk k)) ∧ Blk wr w.heap.size 142 (fill0 []) ∧ Kept [] w wr) (fun i _ => 16 - (intOf i).toNat)
  case atStart => exact ⟨0, by omega, rfl, hG2, hR2, hK2⟩
  case round =>
    obtain ⟨k, hk, rfl, hG, hR, hK⟩ := hrel
    by_cases hlt : k < 16
    · have hbw := hb.kept0 hK
      have hrd : RdB wr (some ⟨p, 8 + 4 * k, none⟩) (64 - 4 * k) (64 - 4 * k) (blk.drop (4 * k)) := by
        refine hbw.rdb _ _ _ _ ?_ (by rw [List.length_drop]; omega) (Nat.le_refl _) (by simp only [maxLen]; omega)
        exact wkc_block s blk held len (4 * k) h64 (by omega)
      have hcut := run_cut_from (P := Tryd.prog) 108 5 64 p 8 .i64 (4 * k) (4 * (k : Int)) arr64b size1b (by omega) (by omega)
      have hl := first16_length blk k
      have hfl := fill0_length (first16 blk k) (by omega)
      have c1 := hG.cellD k (by omega)
      generalize (fill0 (first16 blk k))[k]'(by omega) = u at c1
      have f1 := hG.frz k
      have hnew := hG.set k (.int .u32 (wv (wd (blk.drop (4 * k)))))
      have hset := fill0_set (first16 blk k) (wd (blk.drop (4 * k))) (by omega)
      rw [hl] at hset
      rw [hset] at hnew
      have hRn := hR.set_other (b := w.heap.size + 1) k (.int .u32 (wv (wd (blk.drop (4 * k))))) (by omega)
      have hKn : Kept [] w (wr.setCell ⟨w.heap.size + 1, k, none⟩ (.int .u32 (wv (wd (blk.drop (4 * k)))))) := hK.setCell (by simp) _
      clear hbw hset hfl hl hR hb
      go_wp2_with fail
      refine (word_any _ _ _ _ _ hrd (by omega)).mono ?_
      rintro e w3 ⟨rfl, m, rfl⟩
      go_wp2
      go_roundw
      case rel => exact ⟨k + 1, by omega, by go_num, hnew, hRn, hKn.drewN m⟩
      case measure => simp [intOf]; omega
    · obtain rfl : k = 16 := by omega
      have hG0 : Blk wr (w.heap.size + 1) 142 (fill0 (wordsN blk 0)) := hG
      clear hG hG2 hR2 hK2
      go_wp2
      rw [show ((16 : Nat) : Int) = 16 from rfl]
      go_loopw [5] (fun i wr => ∃ j n : Nat, Hid (j = 16 + n) ∧ 16 ≤ j ∧ j ≤ 64 ∧ i = .int .i64 (j : Int) ∧ Blk wr (w.heap.size + 1) 142 (fill0 (wordsN blk n)) ∧ Blk wr w.heap.size 142 (fill0 []) ∧ Kept [] w wr) (fun i _ => 64 - (intOf i).toNat)
      case atStart => exact ⟨16, 0, Lib.hid rfl, by omega, by omega, rfl, hG0, hR, hK⟩
      case round =>
        clear hG0 hR hK
        obtain ⟨j, n, Hj, hj16, hj64, rfl, hG, hR, hK⟩ := hrel
        have hjn := Hj.out
        by_cases hlt : j < 64
        · have hl := wordsN_length blk n
          obtain ⟨a, ha⟩ : ∃ a : Nat, a = n := ⟨_, rfl⟩
          obtain ⟨b, hbb⟩ : ∃ a : Nat, a = n + 1 := ⟨_, rfl⟩
          obtain ⟨c, hc⟩ : ∃ a : Nat, a = n + 9 := ⟨_, rfl⟩
          obtain ⟨d, hd⟩ : ∃ a : Nat, a = n + 14 := ⟨_, rfl⟩
          have c16 := (hG.cell a).trans (fill0_get (wordsN blk n) a (by omega))
          have c15 := (hG.cell b).trans (fill0_get (wordsN blk n) b (by omega))
          have c7 := (hG.cell c).trans (fill0_get (wordsN blk n) c (by omega))
          have c2 := (hG.cell d).trans (fill0_get (wordsN blk n) d (by omega))
          have hx : nextW (wordsN blk n) (16 + n) = (wordsN blk n).getD a 0 + sS0 ((wordsN blk n).getD b 0) + (wordsN blk n).getD c 0 + sS1 ((wordsN blk n).getD d 0) := by
            unfold nextW
            rw [ha, hbb, hc, hd]
            rw [show 16 + n - 16 = n by omega, show 16 + n - 15 = n + 1 by omega, show 16 + n - 7 = n + 9 by omega, show 16 + n - 2 = n + 14 by omega]
          have Hx := Lib.hid hx
          clear hx
          generalize (wordsN blk n).getD a 0 = xa at c16 Hx
          generalize (wordsN blk n).getD b 0 = xb at c15 Hx
          generalize (wordsN blk n).getD c 0 = xc at c7 Hx
          generalize (wordsN blk n).getD d 0 = xd at c2 Hx
          have q16 : IntKind.i64.wrap ((j : Int) - 16) = (a : Int) := by rw [IntWalk.i64_in _ (by omega)]; omega
          have q15 : IntKind.i64.wrap ((j : Int) - 15) = (b : Int) := by rw [IntWalk.i64_in _ (by omega)]; omega
          have q7 : IntKind.i64.wrap ((j : Int) - 7) = (c : Int) := by rw [IntWalk.i64_in _ (by omega)]; omega
          have q2 : IntKind.i64.wrap ((j : Int) - 2) = (d : Int) := by rw [IntWalk.i64_in _ (by omega)]; omega
          have la : (a : Int) < 64 := by omega
          have lb : (b : Int) < 64 := by omega
          have lc : (c : Int) < 64 := by omega
          have ld : (d : Int) < 64 := by omega
          have Hl := Lib.hid hl
          clear hl ha hbb hc hd hjn
          go_wp2
          go_quiet (fail)
          have rx : ∀ x y : W32, bits .xor .u32 (wv x) (wv y) = wv (x ^^^ y) := bits_xorW
          have rw1 : ∀ x y : W32, IntKind.u32.wrap (wv x + wv y) = wv (x + y) := fun x y => (IntKind.wrap_u32' _).trans (wv_add x y)
          have rw2 : ∀ x y : W32, (wv x + wv y) % 4294967296 = wv (x + y) := wv_add
          go_wp2_with fail
          refine (turn_at _ 7 _ _ rfl (by omega) (by omega)).mono ?_
          rintro e w' ⟨rfl, m1, rfl⟩
          go_wp2_with fail
          refine (turn_at _ 18 _ _ rfl (by omega) (by omega)).mono ?_
          rintro e w' ⟨rfl, m2, rfl⟩
          go_wp2_with fail
          refine (turn_at _ 17 _ _ rfl (by omega) (by omega)).mono ?_
          rintro e w' ⟨rfl, m3, rfl⟩
          go_wp2_with fail
          refine (turn_at _ 19 _ _ rfl (by omega) (by omega)).mono ?_
          rintro e w' ⟨rfl, m4, rfl⟩
          have hfl := fill0_length (wordsN blk n) (by have := Hl.out; have := Hj.out; omega)
          go_wp2
          rw [wv_shr3 xb, wv_shr10 xd, rx, rx]
          obtain ⟨wq, hwq⟩ : ∃ wq, wq = wr.drewN (nq + m1 + m2 + m3 + m4) := ⟨_, rfl⟩
          have hGq : Blk wq (w.heap.size + 1) 142 (fill0 (wordsN blk n)) := by rw [hwq]; exact hG
          have hRq : Blk wq w.heap.size 142 (fill0 []) := by rw [hwq]; exact hR
          have hKq : Kept [] w wq := by rw [hwq]; exact hK.drewN _
          have d16 : wq.cell? ⟨w.heap.size + 1, a, none⟩ = some (.int .u32 (wv xa)) := by rw [hwq]; exact c16
          have d7 : wq.cell? ⟨w.heap.size + 1, c, none⟩ = some (.int .u32 (wv xc)) := by rw [hwq]; exact c7
          rw [← hwq]
          have f1 := hGq.frz j
          have cj := hGq.cellD j (by omega)
          generalize (fill0 (wordsN blk n))[j]'(by omega) = u at cj
          clear hwq hG hR hK c16 c15 c7 c2 hfl
          have hset := fill0_set (wordsN blk n) (xa + sS0 xb + xc + sS1 xd) (by have := Hl.out; have := Hj.out; omega)
          rw [Hl.out, ← Hj.out] at hset
          have hnew := hGq.set j (.int .u32 (wv (xa + sS0 xb + xc + sS1 xd)))
          rw [hset] at hnew
          have hRn := hRq.set_other (b := w.heap.size + 1) j (.int .u32 (wv (xa + sS0 xb + xc + sS1 xd))) (by omega)
          have hKn : Kept [] w (wq.setCell ⟨w.heap.size + 1, j, none⟩ (.int .u32 (wv (xa + sS0 xb + xc + sS1 xd)))) := hKq.setCell (by simp) _
          clear hset
          go_still_tail 15, (by kernel_rfl)
          change wpList _ _ _ _ _ wq.drew
          go_wp2
          go_roundw
          case rel => exact ⟨j + 1, n + 1, Lib.hid (by have := Hj.out; omega), by omega, by omega, by go_num, by rw [wordsN, Hx.out]; exact hnew, hRn, hKn.drewN 1⟩
          case measure => simp [intOf]; omega
        · obtain rfl : n = 48 := by omega
          have hl := words64_length blk
          rw [← words64_eq] at hG
          rw [fill0_full _ hl] at hG
          have hwl := wvs_length (words64 blk)
          rw [hl] at hwl
          have hone := wvs_one (words64 blk)
          obtain ⟨L, hL⟩ : ∃ L, L = wvs (words64 blk) := ⟨_, rfl⟩
          rw [← hL] at hG hwl hone
          have HL := Lib.hid hL
          have hi : (Tryd.prog.info? 142).map (·.size) = some L.length := by rw [hwl]; exact size64
          have H := Lib.hid hi
          have H2 := Lib.hid hwl
          have H3 := Lib.hid hone
          clear hl hwl hi hone hL
          go_wp2_with (first
            | (with_reducible change wpList _ _ _ (⟨_, Op.load _ _, _, _, _, _⟩ :: _) _ _; refine wpList_load_blk rfl 142 (.tmp 3) rfl (w.heap.size + 1) rfl 142 L _ hG Tryd.underlying142 rfl H.out ?_)
            | (with_reducible change wpList _ _ _ (⟨_, Op.store _ _ _, _, _, _, _⟩ :: _) _ _; refine wpList_store_blk rfl 142 (.tmp 2) (.tmp 64) rfl w.heap.size L rfl rfl 142 (fill0 []) hR H.out (by rw [H2.out]; exact fill0_length [] (by simp)) H3.out ?_))
          intro w5 hR5 hk5 hs5
          go_wp2
          refine bodyPost_ret (results_blk rfl _ w.heap.size 142 _ _ rfl hR5 Tryd.underlying142 rfl H.out) rfl ?_
          exact ⟨by rw [HL.out], hK.trans hk5 (by simp)⟩
end Go.Proofs.YtibcjbelcplpjaaDoor
/-
  Contracts of the document's own small functions of layer 2. No statement of the seed is proved here.
-/
namespace Go.Proofs.YtibcjbelcplpjaaDoor
open Go.RowKit
set_option linter.unusedVariables false

def thrN (x : W32) (L : List Nat) : Nat → W32
  | 0 => 0
  | k + 1 => thrN x L k ^^^ rotr x (L.getD k 0)
theorem thrN_three (x : W32) (a b c : Nat) : thrN x [a, b, c] 3 = three x a b c := rfl

set_option maxRecDepth 100000 in
set_option maxHeartbeats 1000000 in
theorem rThree_any (x : W32) (a b c : Nat) (w : World) (ha : 1 ≤ a ∧ a < 32) (hb : 1 ≤ b ∧ b < 32) (hc : 1 ≤ c ∧ c < 32) :
    Calls Tryd.prog 88 #[.int .u32 (wv x), .agg #[.int .i64 a, .int .i64 b, .int .i64 c]] w fun e w' => e = .returned (.int .u32 (wv (three x a b c))) ∧ Kept [] w w' := by
  have b0 := wv_nonneg x
  have b1 := wv_lt x
  have hB := Blk.new w 128 [.int .i64 a, .int .i64 b, .int .i64 c]
  have hK1 : Kept [] w (w.alloc (.cells [.int .i64 (a : Int), .int .i64 b, .int .i64 c].toArray 128)) := (Kept.refl [] w).alloc _
  go_enter Tryd.func88, Tryd.ntmps88
  go_wp2_with (with_reducible change wpList _ _ _ (⟨_, Op.box _ _, _, _, _, _⟩ :: _) _ _; refine Great.wpList_boxTo rfl 128 _ rfl _ rfl w.heap.size rfl [.int .i64 a, .int .i64 b, .int .i64 c].toArray rfl ?_)
  generalize w.alloc (.cells [.int .i64 (a : Int), .int .i64 b, .int .i64 c].toArray 128) = w1 at *
  go_loopw [5, 6] (fun v i wr => ∃ k m : Nat, k ≤ 3 ∧ i = .int .i64 k ∧ v = .int .u32 (wv (thrN x [a, b, c] k)) ∧ wr = w1.drewN m) (fun _ i _ => 3 - (intOf i).toNat)
  case atStart => exact ⟨0, 0, by omega, rfl, by show _ = Value.int .u32 (wv 0); rw [wv_eq]; rfl, rfl⟩
  case round =>
    obtain ⟨k, m, hk, rfl, rfl, rfl⟩ := hrel
    by_cases hlt : k < 3
    · obtain ⟨d, hd1, hd2, hcell, Hd⟩ : ∃ d : Nat, 1 ≤ d ∧ d < 32 ∧ w1.cell? ⟨w.heap.size, k, none⟩ = some (.int .i64 d) ∧ Hid (thrN x [a, b, c] (k + 1) = thrN x [a, b, c] k ^^^ rotr x d) := by
        have : k = 0 ∨ k = 1 ∨ k = 2 := by omega
        rcases this with rfl | rfl | rfl
        · exact ⟨a, ha.1, ha.2, hB.cell 0, rfl⟩
        · exact ⟨b, hb.1, hb.2, hB.cell 1, rfl⟩
        · exact ⟨c, hc.1, hc.2, hB.cell 2, rfl⟩
      generalize thrN x [a, b, c] k = s at *
      have hkz : (k : Int) < 3 := by omega
      have q1 : IntKind.i64.wrap (32 - (d : Int)) = ((32 - d : Nat) : Int) := by rw [IntWalk.i64_in _ (by omega)]; omega
      clear hB hK1 ha hb hc
      go_wp2
      go_quiet (fail)
      go_wp2
      go_roundw
      case rel => exact ⟨k + 1, m + nq, by omega, by go_num, by rw [wv_shr, wv_shl, bits_orW, bits_xorW, Hd.out]; rfl, rfl⟩
      case measure => simp [intOf]; omega
    · obtain rfl : k = 3 := by omega
      go_wp2
      go_ret
      exact ⟨rfl, hK1.drewN m⟩

theorem sizeI3 : (Tryd.prog.info? 128).map (·.size) = some 3 := by kernel_rfl
set_option maxRecDepth 100000 in
set_option maxHeartbeats 1000000 in
theorem rTwo_any (x : W32) (a b c : Nat) (w : World) (ha : 1 ≤ a ∧ a < 32) (hb : 1 ≤ b ∧ b < 32) (hc : 1 ≤ c ∧ c < 32) :
    Calls Tryd.prog 97 #[.int .u32 (wv x), .agg #[.int .i64 a, .int .i64 b, .int .i64 c]] w fun e w' => e = .returned (.int .u32 (wv (three x a b c ^^^ (x <<< (32 - c))))) ∧ Kept [] w w' := by
  have b0 := wv_nonneg x
  have b1 := wv_lt x
  have hB := Blk.new w 128 [.int .i64 a, .int .i64 b, .int .i64 c]
  have hK1 : Kept [] w (w.alloc (.cells [.int .i64 (a : Int), .int .i64 b, .int .i64 c].toArray 128)) := (Kept.refl [] w).alloc _
  obtain ⟨c0, c1⟩ := hc
  go_enter Tryd.func97, Tryd.ntmps97
  go_wp2_with (with_reducible change wpList _ _ _ (⟨_, Op.box _ _, _, _, _, _⟩ :: _) _ _; refine Great.wpList_boxTo rfl 128 _ rfl _ rfl w.heap.size rfl [.int .i64 a, .int .i64 b, .int .i64 c].toArray rfl ?_)
  generalize w.alloc (.cells [.int .i64 (a : Int), .int .i64 b, .int .i64 c].toArray 128) = w1 at *
  have d2 : w1.cell? ⟨w.heap.size, 2, none⟩ = some (.int .i64 c) := hB.cell 2
  go_wp2_with (with_reducible change wpList _ _ _ (⟨_, Op.load 128 _, _, _, _, _⟩ :: _) _ _; refine wpList_load_blk rfl 128 (.tmp 3) rfl w.heap.size rfl 128 [.int .i64 a, .int .i64 b, .int .i64 c] _ hB Tryd.underlying128 rfl sizeI3 ?_)
  refine (rThree_any x a b c _ ha hb ⟨c0, c1⟩).mono ?_
  rintro e w2 ⟨rfl, hk2⟩
  go_wp2
  go_ret
  exact ⟨ret_int (by rw [wv_shl, bits_xorW]), hK1.andThen hk2⟩
end Go.Proofs.YtibcjbelcplpjaaDoor
/-
  Contracts of the document's own tables of layer 2, which it tells as texts. No statement of the seed is proved here.
-/
namespace Go.Proofs.YtibcjbelcplpjaaDoor
open Go.RowKit
set_option linter.unusedVariables false

/-- A hexadecimal digit's sign. -/
def hexS (n : Nat) : UInt8 := if n < 10 then UInt8.ofNat (48 + n) else UInt8.ofNat (87 + n)
/-- A word's j-th digit, the highest first. -/
def digW (x : W32) (j : Nat) : Nat := x.toNat / 16 ^ (7 - j) % 16
def hex8 (x : W32) : List UInt8 := [hexS (digW x 0), hexS (digW x 1), hexS (digW x 2), hexS (digW x 3), hexS (digW x 4), hexS (digW x 5), hexS (digW x 6), hexS (digW x 7)]
theorem hex8_get (x : W32) (j : Nat) (h : j < 8) : (hex8 x)[j]? = some (hexS (digW x j)) := by
  have : j = 0 ∨ j = 1 ∨ j = 2 ∨ j = 3 ∨ j = 4 ∨ j = 5 ∨ j = 6 ∨ j = 7 := by omega
  rcases this with rfl | rfl | rfl | rfl | rfl | rfl | rfl | rfl <;> rfl
theorem flat_get : ∀ (ws : List W32) (i j : Nat), j < 8 → i < ws.length → (ws.flatMap hex8)[8 * i + j]? = some (hexS (digW (ws.getD i 0) j))
  | [], i, j, _, h => by simp at h
  | x :: ws, 0, j, hj, _ => by
    rw [List.flatMap_cons, Nat.mul_zero, Nat.zero_add, List.getElem?_append_left (by simpa [hex8] using hj), hex8_get x j hj]
    rfl
  | x :: ws, i + 1, j, hj, h => by
    have hl : (hex8 x).length = 8 := rfl
    rw [List.flatMap_cons, List.getElem?_append_right (by omega), hl, show 8 * (i + 1) + j - 8 = 8 * i + j by omega, flat_get ws i j hj (by simpa using h)]
    rfl
/-- The first k digits of a word. -/
theorem top_step (x : W32) (k : Nat) (h : k < 8) : x.toNat / 16 ^ (8 - (k + 1)) = 16 * (x.toNat / 16 ^ (8 - k)) + digW x k := by
  have e : 8 - k = (7 - k) + 1 := by omega
  have e2 : 8 - (k + 1) = 7 - k := by omega
  unfold digW
  rw [e, e2, Nat.pow_succ, ← Nat.div_div_eq_div_mul]
  omega
theorem hexS_lo (n : Nat) (h : n < 10) : (hexS n).toNat = 48 + n := by unfold hexS; rw [if_pos h, ofNat_toNat]; omega
theorem hexS_hi (n : Nat) (h : 10 ≤ n) (h2 : n < 16) : (hexS n).toNat = 87 + n := by unfold hexS; rw [if_neg (by omega), ofNat_toNat]; omega
theorem string_get (S : ByteArray) (k : Nat) (b : UInt8) (h : S.data.toList[k]? = some b) : ∃ hk : k < S.size, S[k] = b := by
  obtain ⟨hk, e⟩ := List.getElem?_eq_some_iff.1 h
  have hk2 : k < S.data.size := by simpa using hk
  refine ⟨hk2, ?_⟩
  show S.data[k] = b
  rw [← e]
  simp

set_option maxRecDepth 100000 in
set_option maxHeartbeats 1000000 in
theorem rWord_any (S : ByteArray) (ws : List W32) (i : Nat) (w : World) (hS : S.data.toList = ws.flatMap hex8) (hi : i < ws.length) (hn : ws.length ≤ 1000) :
    Calls Tryd.prog 74 #[.string S, .int .i64 i] w fun e w' => e = .returned (.int .u32 (wv (ws.getD i 0))) ∧ w = w' := by
  go_enter Tryd.func74, Tryd.ntmps74
  go_wp2
  go_loop [5, 6] (fun v q => ∃ k : Nat, k ≤ 8 ∧ q = .int .i64 (8 * (i : Int) + k) ∧ v = .int .u32 (((ws.getD i 0).toNat / 16 ^ (8 - k) : Nat) : Int)) (fun _ q => 8 - (intOf q - 8 * (i : Int)).toNat)
  case atStart => exact ⟨0, by omega, by simp, by have := (ws.getD i 0).isLt; rw [Nat.div_eq_of_lt (by omega)]; rfl⟩
  case round =>
    obtain ⟨k, hk, rfl, rfl⟩ := hrel
    by_cases hlt : k < 8
    · obtain ⟨hk2, hb⟩ := string_get S (8 * i + k) _ (by rw [hS]; exact flat_get ws i k hlt hi)
      have hst := top_step (ws.getD i 0) k hlt
      have hd : digW (ws.getD i 0) k < 16 := Nat.mod_lt _ (by omega)
      have hbd : (ws.getD i 0).toNat / 16 ^ (8 - (k + 1)) < 4294967296 := Nat.lt_of_le_of_lt (Nat.div_le_self _ _) (ws.getD i 0).isLt
      rw [hst] at hbd
      generalize (ws.getD i 0).toNat / 16 ^ (8 - k) = y at *
      generalize digW (ws.getD i 0) k = d at *
      have Hst := Lib.hid hst
      by_cases hlo : d < 10
      · have h8 := hexS_lo d hlo
        rw [← hb] at h8
        clear hb hst hS
        go_wp2
        go_round
        case rel => exact ⟨k + 1, by omega, congrArg _ (by omega), by rw [Hst.out]; exact congrArg _ (by omega)⟩
        case measure => simp [intOf]; omega
      · have h8 := hexS_hi d (by omega) hd
        rw [← hb] at h8
        clear hb hst hS
        go_wp2
        go_round
        case rel => exact ⟨k + 1, by omega, congrArg _ (by omega), by rw [Hst.out]; exact congrArg _ (by omega)⟩
        case measure => simp [intOf]; omega
    · obtain rfl : k = 8 := by omega
      clear hS
      go_wp2
      go_ret
      refine ⟨ret_int ?_, rfl⟩
      rw [wv_eq]

/-- A text that tells these words. -/
def TextRet (ws : List W32) (w : World) (e : Ending) (w' : World) : Prop := ∃ S : ByteArray, e = .returned (.string S) ∧ S.data.toList = ws.flatMap hex8 ∧ w = w'
set_option maxRecDepth 100000 in
set_option maxHeartbeats 1000000 in
theorem rBegins_any (w : World) : Calls Tryd.prog 75 #[] w (TextRet st0.l w) := by
  go_enter Tryd.func75, Tryd.ntmps75
  go_wp2
  go_ret
  exact ⟨_, rfl, by decide +kernel, rfl⟩
set_option maxRecDepth 100000 in
set_option maxHeartbeats 1000000 in
theorem rRounds_any (w : World) : Calls Tryd.prog 87 #[] w (TextRet ks w) := by
  go_enter Tryd.func87, Tryd.ntmps87
  go_wp2
  go_ret
  exact ⟨_, rfl, by decide +kernel, rfl⟩
end Go.Proofs.YtibcjbelcplpjaaDoor
/-
  Contracts of the document's own answers of layer 1: a number that is taken. No statement of the seed is proved here.
-/
namespace Go.Proofs.YtibcjbelcplpjaaDoor
open Go.RowKit
set_option linter.unusedVariables false

theorem rfNumber_any (A : Option Addr) (n c : Nat) (bs : List UInt8) (a m : Nat) (w : World) (hr : RdB w A n c bs) (hm : m ≤ 8) (ha : a + m ≤ n) (hn : n ≤ 1000000) :
    Calls Tryd.prog 66 #[.slice A n c, .int .i64 a, .int .i64 m] w fun e w' => e = .returned (.int .u64 (num ((bs.drop a).take m))) ∧ w = w' := by
  go_enter Tryd.func66, Tryd.ntmps66
  go_wp2
  go_loop [7, 8] (fun x i => ∃ k : Nat, k ≤ m ∧ i = .int .i64 k ∧ x = .int .u64 (num ((bs.drop a).take k))) (fun _ i => m - (intOf i).toNat)
  case atStart => exact ⟨0, by omega, rfl, rfl⟩
  case round =>
    obtain ⟨k, hk, rfl, rfl⟩ := hrel
    by_cases hlt : k < m
    · have hx : num ((bs.drop a).take k) < 72057594037927936 := by
        have hb := num_lt ((bs.drop a).take k)
        have h2 : (256 : Nat) ^ ((bs.drop a).take k).length ≤ 256 ^ 7 := Nat.pow_le_pow_right (by omega) (by rw [List.length_take]; omega)
        omega
      obtain ⟨b, off, y, rfl, c1, hy1, hy⟩ := hr.byte (k := a + k) (by omega)
      have hts : num ((bs.drop a).take (k + 1)) = num ((bs.drop a).take k) * 256 + y.toNat := by
        rw [take_step _ _ _ (by rw [List.getElem?_drop]; exact hy1), num_snoc]
      have H := Lib.hid hts
      clear hts hy1
      generalize num ((bs.drop a).take k) = x at *
      go_wp2
      go_round
      case rel => exact ⟨k + 1, by omega, by go_num, by rw [H.out]; congr 1; omega⟩
      case measure => simp [intOf]; omega
    · obtain rfl : k = m := by omega
      go_wp2
      go_ret
      exact ⟨rfl, rfl⟩

theorem rfNumber_at (A : Option Addr) (n c : Nat) (bs : List UInt8) (a m : Nat) (z y : Int) (w : World) (hr : RdB w A n c bs) (hz : z = (a : Int)) (hy : y = (m : Int)) (hm : m ≤ 8) (ha : a + m ≤ n) (hn : n ≤ 1000000) :
    Calls Tryd.prog 66 #[.slice A n c, .int .i64 z, .int .i64 y] w fun e w' => e = .returned (.int .u64 (num ((bs.drop a).take m))) ∧ w = w' := by
  subst hz hy
  exact rfNumber_any A n c bs a m w hr hm ha hn

/-- What the document's own answer of a take is. -/
def GotRet (x : Nat) (t : List UInt8) (d er : Nat) (w : World) (e : Ending) (w' : World) : Prop :=
  ∃ v, e = .returned (.agg #[.int .u64 x, v, .int .i64 d, .int .i64 er]) ∧ OwB 5 w' v t ∧ Kept [] w w' ∧ ∀ g, v.ownBlock = some g → w.heap.size ≤ g
theorem got_nil (x d er : Nat) {w w' : World} {e : Ending} (he : e = .returned (.agg #[.int .u64 x, .slice none 0 0, .int .i64 d, .int .i64 er])) (hk : Kept [] w w') : GotRet x [] d er w e w' :=
  ⟨_, he, OwB.nil _ _, hk, by simp [Value.ownBlock]⟩

theorem rfTakeNum_any (A : Option Addr) (n c : Nat) (bs : List UInt8) (a : Nat) (m : Int) (w : World) (hr : RdB w A n c bs) (ha : a ≤ n) (hn : n ≤ 1000000) :
    Calls Tryd.prog 96 #[.slice A n c, .int .i64 a, .int .i64 m] w (GotRet (tnum (bs.drop a) m).1 [] (tnum (bs.drop a) m).2.1 (tnum (bs.drop a) m).2.2 w) := by
  by_cases hm : m < 1 ∨ 8 < m
  · have ht : tnum (bs.drop a) m = (0, 0, 14) := by unfold tnum; rw [if_pos hm]
    rw [ht]
    clear ht
    rcases hm with hm | hm
    · go_enter Tryd.func96, Tryd.ntmps96
      go_wp2
      exact bodyPost_ret (v := .agg #[.int .u64 0, .slice none 0 0, .int .i64 0, .int .i64 14]) (by simp [results, Tryd.results96, go_sem]) rfl (got_nil 0 0 14 rfl ((Kept.refl _ _).alloc _))
    · have hd : decide (m < 1) = false := by simp; omega
      have hd2 : decide (8 < m) = true := by simp; omega
      go_enter Tryd.func96, Tryd.ntmps96
      go_wp2
      exact bodyPost_ret (v := .agg #[.int .u64 0, .slice none 0 0, .int .i64 0, .int .i64 14]) (by simp [results, Tryd.results96, go_sem]) rfl (got_nil 0 0 14 rfl ((Kept.refl _ _).alloc _))
  · obtain ⟨k, rfl⟩ := Int.eq_ofNat_of_zero_le (show 0 ≤ m by omega)
    have hd : decide ((k : Int) < 1) = false := by simp; omega
    have hd2 : decide (8 < (k : Int)) = false := by simp; omega
    have hl := hr.len
    by_cases hs : (bs.drop a).length < k
    · have ht : tnum (bs.drop a) k = (0, 0, 1) := by unfold tnum; rw [if_neg hm, if_pos (by simpa using hs)]
      rw [ht]
      rw [List.length_drop] at hs
      have hg : (n : Int) - (a : Int) < (k : Int) := by omega
      clear ht hl
      go_enter Tryd.func96, Tryd.ntmps96
      go_wp2
      exact bodyPost_ret (v := .agg #[.int .u64 0, .slice none 0 0, .int .i64 0, .int .i64 1]) (by simp [results, Tryd.results96, go_sem]) rfl (got_nil 0 0 1 rfl ((Kept.refl _ _).alloc _))
    · have ht : tnum (bs.drop a) k = (num ((bs.drop a).take k), k, 0) := by unfold tnum; rw [if_neg hm, if_neg (by simpa using hs)]; simp
      rw [ht]
      rw [List.length_drop] at hs
      have hg : (k : Int) ≤ (n : Int) - (a : Int) := by omega
      clear ht hl
      go_enter Tryd.func96, Tryd.ntmps96
      go_wp2_with (go_at_call 66; refine (rfNumber_any A n c bs a k _ (hr.alloc _) (by omega) (by omega) hn).mono ?_; rintro e w' ⟨rfl, rfl⟩)
      exact bodyPost_ret (v := .agg #[.int .u64 (num ((bs.drop a).take k)), .slice none 0 0, .int .i64 k, .int .i64 0]) (by simp [results, Tryd.results96, go_sem]) rfl (got_nil _ _ 0 rfl ((Kept.refl _ _).alloc _))

end Go.Proofs.YtibcjbelcplpjaaDoor
/-
  Helper words on memory, going on: an append leaves the row's own first cells as they were, wherever the new row lies. No statement of the seed is proved here.
-/
namespace Go.Proofs.YtibcjbelcplpjaaDoor
open Go.RowKit

section
variable {P : Program} {w : World}
theorem append_keeps (t ty e : TypeId) (i : TypeInfo) (z : Value) (bytes : Nat) (ht : P.underlying t = some (.slice e)) (hi : P.info? e = some i) (hz : i.zero = some z)
    (hsize : i.size = 1) (hby : i.bytes = bytes) {v : Value} {xs : List Value} (hown : OwV e w v xs)
    {A : Option Addr} {m c : Nat} {news : List Value} (hr : RdV w A m c news) (h1 : ∀ u ∈ news, u.oneCell' = true) (h63 : xs.length + m ≤ maxLen) (hbytes : (xs.length + m) * bytes ≤ 140737488355328)
    {v' : Value} {w' : World} (hrun : (Builtin.append_ #[t, t] ty #[v, .slice A m c]).run P w = .ok v' w') :
    ∀ g j u, v.ownBlock = some g → j < xs.length → w.cell? ⟨g, j, none⟩ = some u → w'.cell? ⟨g, j, none⟩ = some u := by
  subst hby
  intro g j u hg hj hu
  rcases A with _ | a
  · have hm : m = 0 := by
      rcases Nat.eq_zero_or_pos m with h0 | h0
      · exact h0
      · obtain ⟨b, off, e, _⟩ := hr.cells h0
        cases e
    subst hm
    have hw : w' = w := by
      rcases hown.2 with ⟨rfl, _⟩ | ⟨g, cap, cur, rfl, _, _, hnc, _⟩
      · simp [Builtin.append_, run_underlying ht, sizeOf, typeInfo, hi, Builtin.lenOf, Builtin.firstCells] at hrun
        exact hrun.2.symm
      · simp [Builtin.append_, run_underlying ht, sizeOf, typeInfo, hi, Builtin.lenOf, Builtin.firstCells, hnc, storeCells] at hrun
        exact hrun.2.symm
    rw [hw]; exact hu
  · have hl : news.length = m * i.size := by rw [hr.len, hsize]; omega
    rcases hown.2 with ⟨rfl, h0⟩ | ⟨g2, cap, cur, rfl, _, hg2, hnc, hcm, hcs, htake⟩
    · omega
    · have hgg : g2 = g := by simpa [Value.ownBlock] using hg
      subst hgg
      by_cases hroom : xs.length + m ≤ cap
      · have hfit : xs.length * i.size + news.length ≤ cur.size := by rw [hl, hcs, hsize]; omega
        have hr2 := run_append_room (P := P) w t ty e i ht hi g2 xs.length cap cur hg2 a m c news hl hr.news h1 hroom hfit
        rw [hr2] at hrun
        injection hrun with e1 e2
        rw [← e2, cell_of_row _ _ _ _ _ _ (setRow_heap w g2 cur _ e _ hg2)]
        rw [cell_of_row w g2 j cur e (0, 0) hg2] at hu
        have hjc : j < cur.size := (Array.getElem?_eq_some_iff.1 hu).1
        simp only [List.getElem?_toArray]
        rw [List.getElem?_append_left (by simp only [List.length_append, List.length_take, Array.length_toList]; rw [hsize]; omega)]
        first
          | rw [List.getElem?_append_left (by simp only [List.length_take, Array.length_toList]; rw [hsize]; omega)]
          | skip
        rw [List.getElem?_take, if_pos (by rw [hsize]; omega)]
        simpa using hu
      · have holds : ∀ j u, xs[j]? = some u → w.cell? ((⟨g2, 0, none⟩ : Addr).add j) = some u := World.ownsRow.cells (g := g2) hown rfl
        have hr2 := run_append_grow (P := P) w t ty e i z ht hi hz ⟨g2, 0, none⟩ xs.length cap xs (by rw [hsize]; omega) holds a m c news hl hr.news (by omega) (by simp only [maxLen] at h63; omega) (growslice_fits (by omega) hbytes)
        rw [hr2] at hrun
        injection hrun with e1 e2
        rw [← e2]
        have hlt : g2 < w.heap.size := (Array.getElem?_eq_some_iff.1 hg2).1
        exact (((Kept.refl [] w).drew.alloc _).cell (p := ⟨g2, j, none⟩) hlt (by simp)).trans hu
/-- The same as a step of a region whose order is left open. -/
theorem step_append_keep {ops : Array Oper} {o : Oper} {a : Act} {K : Act → World → Prop} {Q : Exit → Act → World → Prop} {E : Prop} (hgd : o.guard = none) (s x : Operand) (t : TypeId)
    (ho : o.op = .call { callee := .builtin .append, args := #[s, x], argTypes := #[t, t] })
    (e : TypeId) (i : TypeInfo) (z : Value) (bytes : Nat) (ht : P.underlying t = some (.slice e)) (hi : P.info? e = some i) (hz : i.zero = some z)
    (hsize : i.size = 1) (hby : i.bytes = bytes) (hzs : z.cells.size = 1)
    (v : Value) (xs : List Value) (hs : a.eval s = v) (hown : OwV e w v xs)
    (A : Option Addr) (m c : Nat) (news : List Value) (hx : a.eval x = .slice A m c) (hr : RdV w A m c news) (h1 : ∀ u ∈ news, u.oneCell' = true)
    (h63 : xs.length + m ≤ maxLen) (hbytes : (xs.length + m) * bytes ≤ 140737488355328)
    (h : ∀ v' w', OwV e w' v' (xs ++ news) → Kept v.ownBlock.toList w w' → Moved w v v' → (∀ g j u, v.ownBlock = some g → j < xs.length → w.cell? ⟨g, j, none⟩ = some u → w'.cell? ⟨g, j, none⟩ = some u) → K (a.put o.dst v') w') :
    if Region.wanted o (yielded ops a.tmps) = true then Oper.wp P o a w K Q else E := by
  have hw : Region.wanted o (yielded ops a.tmps) = true := by simp [Region.wanted, hgd]
  rw [if_pos hw]
  obtain ⟨v', w', hrun, h2, h3, h4⟩ := run_append_vals (P := P) (w := w) t o.type e i z bytes ht hi hz hsize hby hzs hown hr h1 h63 hbytes
  have h5 := append_keeps t o.type e i z bytes ht hi hz hsize hby hown hr h1 h63 hbytes hrun
  unfold Oper.wp execOp
  simp only [ho, resolve, invoke, builtin, Sem.run_bind, Sem.run_pure, Result.andThen_ok, List.map_toArray, List.map_cons, List.map_nil, hs, hx, hrun]
  exact h v' w' h2 h3 h4 h5
end
end Go.Proofs.YtibcjbelcplpjaaDoor
/-
  Contract of the document's own sixty-four words of a block. No statement of the seed is proved here.
-/
namespace Go.Proofs.YtibcjbelcplpjaaDoor
open Go.RowKit
set_option linter.unusedVariables false

theorem rTwo_at (x : W32) (a b c : Nat) (y1 y2 y3 : Int) (w : World) (e1 : y1 = (a : Int)) (e2 : y2 = (b : Int)) (e3 : y3 = (c : Int)) (ha : 1 ≤ a ∧ a < 32) (hb : 1 ≤ b ∧ b < 32) (hc : 1 ≤ c ∧ c < 32) :
    Calls Tryd.prog 97 #[.int .u32 (wv x), .agg #[.int .i64 y1, .int .i64 y2, .int .i64 y3]] w fun e w' => e = .returned (.int .u32 (wv (three x a b c ^^^ (x <<< (32 - c))))) ∧ Kept [] w w' := by
  subst e1 e2 e3; exact rTwo_any x a b c w ha hb hc
theorem rThree_at (x : W32) (a b c : Nat) (y1 y2 y3 : Int) (w : World) (e1 : y1 = (a : Int)) (e2 : y2 = (b : Int)) (e3 : y3 = (c : Int)) (ha : 1 ≤ a ∧ a < 32) (hb : 1 ≤ b ∧ b < 32) (hc : 1 ≤ c ∧ c < 32) :
    Calls Tryd.prog 88 #[.int .u32 (wv x), .agg #[.int .i64 y1, .int .i64 y2, .int .i64 y3]] w fun e w' => e = .returned (.int .u32 (wv (three x a b c))) ∧ Kept [] w w' := by
  subst e1 e2 e3; exact rThree_any x a b c w ha hb hc
def slen3 : Value → Nat
  | .slice _ n _ => n
  | _ => 0
theorem u32info : (Tryd.prog.info? 114).map (fun i => (i.zero, i.size, i.bytes)) = some (some (.int .u32 0), 1, 4) := by kernel_rfl

/-- Where a row of one's own lies. -/
theorem OwV.at0 {e : TypeId} {w : World} {v : Value} {vs : List Value} (h : OwV e w v vs) (hn : 0 < vs.length) : ∃ g cap, v = .slice (some ⟨g, 0, none⟩) vs.length cap ∧ g < w.heap.size ∧ vs.length ≤ cap ∧ cap ≤ maxLen ∧ ∀ j, (hj : j < vs.length) → w.cell? ⟨g, j, none⟩ = some vs[j] := by
  rcases h.2 with ⟨rfl, h0⟩ | ⟨g, cap, cur, rfl, _, hg, hnc, hcm, hcs, htake⟩
  · omega
  · refine ⟨g, cap, rfl, (Array.getElem?_eq_some_iff.1 hg).1, hnc, hcm, fun j hj => ?_⟩
    rw [cell_of_row w g j cur e (0, 0) hg]
    have := congrArg (fun l : List Value => l[j]?) htake
    simp only [List.getElem?_take] at this
    rw [if_pos (by omega), List.getElem?_eq_getElem hj] at this
    simpa using this

theorem got_field0 (x v d e : Value) (W : World) : (Instr.field 61 (.agg #[x, v, d, e]) 0).run Tryd.prog W = .ok x W := by kernel_rfl
/-- What a take of four bytes tells. -/
theorem take4_at (A : Option Addr) (n c : Nat) (bs : List UInt8) (a : Nat) (z : Int) (w : World) (hr : RdB w A n c bs) (hz : z = (a : Int)) (ha : a + 4 ≤ n) (hn : n ≤ 1000000) :
    Calls Tryd.prog 96 #[.slice A n c, .int .i64 z, .int .i64 4] w fun e w' => ∃ v d er, e = .returned (.agg #[.int .u64 (wv (wd (bs.drop a))), v, d, er]) ∧ Kept [] w w' := by
  subst hz
  have hl := hr.len
  have ht : (tnum (bs.drop a) 4).1 = num ((bs.drop a).take 4) := by
    unfold tnum
    rw [if_neg (by omega), if_neg (by rw [List.length_drop]; show ¬ _ < 4; omega)]
    rfl
  have hlt : num ((bs.drop a).take 4) < 4294967296 := by
    have h1 := num_lt ((bs.drop a).take 4)
    have h2 : (256 : Nat) ^ ((bs.drop a).take 4).length ≤ 256 ^ 4 := Nat.pow_le_pow_right (by omega) (by rw [List.length_take]; omega)
    omega
  refine (rfTakeNum_any A n c bs a 4 w hr (by omega) hn).mono ?_
  rintro e w1 ⟨v, rfl, ho, hk, hf⟩
  have e : wv (wd (bs.drop a)) = (((tnum (bs.drop a) 4).1 : Nat) : Int) := by rw [ht]; unfold wd; rw [wv_ofNat _ hlt]
  rw [e]
  exact ⟨v, _, _, rfl, hk⟩

/-- A row of words that is made anew. -/
def RowRet (l : List W32) (w : World) (e : Ending) (w' : World) : Prop := ∃ v, e = .returned v ∧ OwV 114 w' v (wvs l) ∧ Kept [] w w' ∧ ∀ g, v.ownBlock = some g → w.heap.size ≤ g

set_option maxRecDepth 100000 in
set_option maxHeartbeats 4000000 in
theorem rSpread_any (A : Option Addr) (c : Nat) (bs : List UInt8) (w : World) (hr : RdB w A 64 c bs) :
    Calls Tryd.prog 86 #[.slice A 64 c] w (RowRet (words64 bs) w) := by
  obtain ⟨i0, hi, hz0, hz1, hz2⟩ := info_parts u32info
  go_enter Tryd.func86, Tryd.ntmps86
  go_wp2
  go_loopw [3] (fun v wr => ∃ (k : Nat) (A3 : Option Addr) (c3 : Nat), k ≤ 16 ∧ v = .slice A3 k c3 ∧ OwV 114 wr (.slice A3 k c3) (wvs (first16 bs k)) ∧ Kept [] w wr ∧ Hid (∀ g, (Value.slice A3 k c3).ownBlock = some g → w.heap.size ≤ g)) (fun v _ => 16 - slen3 v)
  case atStart => exact ⟨0, none, 0, by omega, rfl, OwV.nil _ _, Kept.refl _ _, Lib.hid (by simp [Value.ownBlock])⟩
  case round =>
    obtain ⟨k, A3, c3, hk, rfl, ho, hK, Hb⟩ := hrel
    by_cases hlt : k < 16
    · have hf := first16_length bs k
      have hw3 : (wvs (first16 bs k)).length = k := by rw [wvs_length]; exact hf
      have H3 := Lib.hid hw3
      clear hf hw3
      go_wp2_with fail
      refine (take4_at A 64 c bs (4 * k) _ _ (hr.kept0 hK) (by omega) (by omega) (by omega)).mono ?_
      rintro e w2 ⟨v2, d2, er2, rfl, hk2⟩
      have hfield := got_field0 (.int .u64 (wv (wd (bs.drop (4 * k))))) v2 d2 er2
      have b0 := wv_nonneg (wd (bs.drop (4 * k)))
      have b1 := wv_lt (wd (bs.drop (4 * k)))
      go_wp2_with (at_builtin; refine wpList_append_vals rfl (.tmp 8) (.tmp 16) 113 rfl 114 i0 _ 4 Tryd.underlying113 hi hz0 hz1 hz2 rfl (.slice A3 k c3) (wvs (first16 bs k)) rfl ((ho.kept0 hk2).alloc _) _ 1 1 [.int .u32 (wv (wd (bs.drop (4 * k))))] rfl (RdV.one w2 _ _) (by simp [Value.oneCell']) (by rw [H3.out]; simp only [maxLen]; omega) (by rw [H3.out]; omega) ?_)
      intro v3 w3 ho3 hk3 hm3
      obtain ⟨hK3, hb3⟩ := app_new ((hK.andThen hk2).alloc _) Hb.out hk3 hm3
      obtain ⟨A4, n4, c4, rfl, hr4, _⟩ := ho3.form
      obtain rfl : k + 1 = n4 := by have := hr4.len; rw [List.length_append, H3.out] at this; exact this
      have ho4 : OwV 114 w3 (.slice A4 (k + 1) c4) (wvs (first16 bs (k + 1))) := by rw [first16, wvs_append]; exact ho3
      have Hb3 := Lib.hid hb3
      clear ho3 hk3 hm3 hr4 hb3 ho hk2 hK b0 b1 hfield
      go_wp2
      go_roundw
      case rel => exact ⟨k + 1, A4, c4, by omega, rfl, ho4, hK3, Hb3⟩
      case measure => simp [slen3]; omega
    · obtain rfl : 16 = k := by omega
      have ho0 : OwV 114 wr (.slice A3 16 c3) (wvs (wordsN bs 0)) := ho
      clear ho hlt hk
      go_wp2
      go_loopw [3, 4] (fun v i wr => ∃ (j n : Nat) (A3 : Option Addr) (c3 : Nat), Hid (j = 16 + n) ∧ 16 ≤ j ∧ j ≤ 64 ∧ i = .int .i64 j ∧ v = .slice A3 j c3 ∧ OwV 114 wr (.slice A3 j c3) (wvs (wordsN bs n)) ∧ Kept [] w wr ∧ Hid (∀ g, (Value.slice A3 j c3).ownBlock = some g → w.heap.size ≤ g)) (fun v _ _ => 64 - slen3 v)
      case atStart => exact ⟨16, 0, A3, c3, Lib.hid rfl, by omega, by omega, rfl, rfl, ho0, hK, Hb⟩
      case round =>
        clear ho0 hK Hb
        obtain ⟨j, n, A3, c3, Hj, hj16, hj64, rfl, rfl, ho, hK, Hb⟩ := hrel
        have hjn := Hj.out
        have hl := wordsN_length bs n
        have hwl : (wvs (wordsN bs n)).length = j := by rw [wvs_length]; omega
        by_cases hlt : j < 64
        · obtain ⟨g, cap, hv, hglt, hgc, hgm, hcell⟩ := ho.at0 (by omega)
          rw [hwl] at hv
          injection hv with hv1 hv2 hv3
          subst hv1 hv3
          obtain ⟨a, ha⟩ : ∃ a : Nat, a = n := ⟨_, rfl⟩
          obtain ⟨b, hbb⟩ : ∃ a : Nat, a = n + 1 := ⟨_, rfl⟩
          obtain ⟨c, hc⟩ : ∃ a : Nat, a = n + 9 := ⟨_, rfl⟩
          obtain ⟨d, hd⟩ : ∃ a : Nat, a = n + 14 := ⟨_, rfl⟩
          have hcl : ∀ t : Nat, t < j → wr.cell? ⟨g, t, none⟩ = some (.int .u32 (wv ((wordsN bs n).getD t 0))) := fun t ht => by
            rw [hcell t (by omega), ← wvs_get (wordsN bs n) t (by omega), List.getElem?_eq_getElem (by omega)]
          have c16 := hcl a (by omega)
          have c15 := hcl b (by omega)
          have c7 := hcl c (by omega)
          have c2 := hcl d (by omega)
          have hx : nextW (wordsN bs n) (16 + n) = (wordsN bs n).getD a 0 + sS0 ((wordsN bs n).getD b 0) + (wordsN bs n).getD c 0 + sS1 ((wordsN bs n).getD d 0) := by
            unfold nextW
            rw [ha, hbb, hc, hd]
            rw [show 16 + n - 16 = n by omega, show 16 + n - 15 = n + 1 by omega, show 16 + n - 7 = n + 9 by omega, show 16 + n - 2 = n + 14 by omega]
          have Hx := Lib.hid hx
          clear hx hcl hcell
          generalize (wordsN bs n).getD a 0 = xa at c16 Hx
          generalize (wordsN bs n).getD b 0 = xb at c15 Hx
          generalize (wordsN bs n).getD c 0 = xc at c7 Hx
          generalize (wordsN bs n).getD d 0 = xd at c2 Hx
          have q16 : IntKind.i64.wrap ((j : Int) - 16) = (a : Int) := by rw [IntWalk.i64_in _ (by omega)]; omega
          have q15 : IntKind.i64.wrap ((j : Int) - 15) = (b : Int) := by rw [IntWalk.i64_in _ (by omega)]; omega
          have q7 : IntKind.i64.wrap ((j : Int) - 7) = (c : Int) := by rw [IntWalk.i64_in _ (by omega)]; omega
          have q2 : IntKind.i64.wrap ((j : Int) - 2) = (d : Int) := by rw [IntWalk.i64_in _ (by omega)]; omega
          have la : (a : Int) < (j : Int) := by omega
          have lb : (b : Int) < (j : Int) := by omega
          have lc : (c : Int) < (j : Int) := by omega
          have ld : (d : Int) < (j : Int) := by omega
          have Hl := Lib.hid hwl
          have SK : Hid (∀ W, Kept [] wr W → W.cell? ⟨g, a, none⟩ = some (.int .u32 (wv xa)) ∧ W.cell? ⟨g, b, none⟩ = some (.int .u32 (wv xb)) ∧ W.cell? ⟨g, c, none⟩ = some (.int .u32 (wv xc)) ∧ W.cell? ⟨g, d, none⟩ = some (.int .u32 (wv xd))) := fun W hk =>
            ⟨(hk.cell (p := ⟨g, a, none⟩) hglt (by simp)).trans c16, (hk.cell (p := ⟨g, b, none⟩) hglt (by simp)).trans c15, (hk.cell (p := ⟨g, c, none⟩) hglt (by simp)).trans c7, (hk.cell (p := ⟨g, d, none⟩) hglt (by simp)).trans c2⟩
          have K0 : Hid (Kept [] wr wr.drew) := (Kept.refl [] wr).drew
          have rw1 : ∀ x y : W32, IntKind.u32.wrap (wv x + wv y) = wv (x + y) := fun x y => (IntKind.wrap_u32' _).trans (wv_add x y)
          clear hl ha hbb hc hd hjn hwl
          go_wp2
          go_region_held3 (fun w' => w'.cell? ⟨g, a, none⟩ = some (.int .u32 (wv xa)) ∧ w'.cell? ⟨g, b, none⟩ = some (.int .u32 (wv xb)) ∧ w'.cell? ⟨g, c, none⟩ = some (.int .u32 (wv xc)) ∧ w'.cell? ⟨g, d, none⟩ = some (.int .u32 (wv xd)))
            (first
              | exact SK.out _ (Kept.refl [] wr)
              | exact SK.out _ K0.out
              | exact SK.out _ hK4.out
              | exact SK.out _ hK5.out
              | exact SK.out _ (hK5.out.alloc _)
              | exact ⟨hS6 g a _ rfl (by rw [Hl.out]; omega) (SK.out _ (hK5.out.alloc _)).1, hS6 g b _ rfl (by rw [Hl.out]; omega) (SK.out _ (hK5.out.alloc _)).2.1, hS6 g c _ rfl (by rw [Hl.out]; omega) (SK.out _ (hK5.out.alloc _)).2.2.1, hS6 g d _ rfl (by rw [Hl.out]; omega) (SK.out _ (hK5.out.alloc _)).2.2.2⟩)
            (first
              | (go_at_call_of 97 xb; refine (rTwo_at xb 7 18 3 _ _ _ _ rfl rfl rfl (by omega) (by omega) (by omega)).mono ?_; rintro e w4 ⟨rfl, hk4⟩; have hK4 := Lib.hid (K0.out.andThen hk4))
              | (go_at_call_of 97 xd; refine (rTwo_at xd 17 19 10 _ _ _ _ rfl rfl rfl (by omega) (by omega) (by omega)).mono ?_; rintro e w5 ⟨rfl, hk5⟩; have hK5 := Lib.hid (hK4.out.andThen hk5))
              | (refine step_append_keep (by rfl) (.tmp 22) (.tmp 50) 113 (by rfl) 114 i0 _ 4 Tryd.underlying113 hi hz0 hz1 hz2 (by rfl) _ (wvs (wordsN bs n)) (by rfl) (ho.kept0 (hK5.out.alloc _)) _ 1 1 _ (by rfl) (RdV.one w5 _ _) (by simp [Value.oneCell']) (by rw [Hl.out]; simp only [maxLen]; omega) (by rw [Hl.out]; omega) ?_; intro v6 w6 ho6 hk6 hm6 hS6))
          obtain ⟨hK6, hb6⟩ := app_new ((hK.andThen hK5.out).alloc _) Hb.out hk6 hm6
          obtain ⟨A4, n4, c4, rfl, hr4, _⟩ := ho6.form
          obtain rfl : j + 1 = n4 := by have := hr4.len; rw [List.length_append, Hl.out] at this; exact this
          have ho7 : OwV 114 w6 (.slice A4 (j + 1) c4) (wvs (wordsN bs (n + 1))) := by
            rw [wordsN, Hx.out, wvs_append, ← two_s0, ← two_s1]; exact ho6
          have Hb6 := Lib.hid hb6
          clear ho6 hr4 hb6 hk6 hm6 hS6 ho hK Hb hk4 hk5 hK4 hK5 SK K0 c16 c15 c7 c2
          go_wp2
          go_roundw
          case rel => exact ⟨j + 1, n + 1, A4, c4, Lib.hid (by have := Hj.out; omega), by omega, by omega, by go_num, rfl, ho7, hK6, Hb6⟩
          case measure => simp [slen3]; omega
        · obtain rfl : n = 48 := by omega
          obtain rfl : 64 = j := by omega
          rw [← words64_eq] at ho
          clear hl hwl hjn
          go_wp2
          go_ret
          exact ⟨_, rfl, ho, hK, Hb.out⟩
end Go.Proofs.YtibcjbelcplpjaaDoor
/-
  Contract of the function that turns a block into the state, layer 2 (sha). No statement of the seed is proved here.
-/
namespace Go.Proofs.YtibcjbelcplpjaaDoor
open Go.RowKit
set_option linter.unusedVariables false

/-- The two tables that lie at package level. -/
def Glob (w : World) : Prop := (∀ k, k < 8 → w.cell? ⟨1, k, none⟩ = some (.int .u32 (wv (st0.l.getD k 0)))) ∧ (∀ k, k < 64 → w.cell? ⟨4, k, none⟩ = some (.int .u32 (wv (ks.getD k 0))))
theorem Glob.lt {w : World} (h : Glob w) : 1 < w.heap.size ∧ 4 < w.heap.size := ⟨World.block_lt_of_cell? w _ (h.1 0 (by omega)), World.block_lt_of_cell? w _ (h.2 0 (by omega))⟩
theorem Glob.kept {w w' : World} {S : List Nat} (h : Glob w) (hk : Kept S w w') (h0 : 1 ∉ S) (h1 : 4 ∉ S) : Glob w' := by
  have hl := h.lt
  exact ⟨fun k hh => (hk.cell (p := ⟨1, k, none⟩) hl.1 h0).trans (h.1 k hh), fun k hh => (hk.cell (p := ⟨4, k, none⟩) hl.2 h1).trans (h.2 k hh)⟩
theorem Glob.kept0 {w w' : World} (h : Glob w) (hk : Kept [] w w') : Glob w' := h.kept hk (by simp) (by simp)

theorem size8 : (Tryd.prog.info? 133).map (·.size) = some 8 := by kernel_rfl
theorem size8w (s : St) : (Tryd.prog.info? 133).map (·.size) = some (wvs s.l).length := by
  have : (wvs s.l).length = 8 := rfl
  rw [this]; exact size8
def z8 : List Value := List.replicate 8 (.int .u32 0)
theorem zero8 : (Tryd.prog.info? 133).bind (·.zero) = some (.agg z8.toArray) := by kernel_rfl
theorem wkc_head (s : St) (blk : List UInt8) (held len : Int) : ((wkc s blk held len).drop 0).take (wvs s.l).length = wvs s.l := by simp [wkc]
theorem wkc_state (s : St) (blk : List UInt8) (held len : Int) (j : Nat) (h : j < 8) : (wkc s blk held len)[j]? = some (.int .u32 (wv (s.l.getD j 0))) := by
  rw [wkc, List.getElem?_append_left (by rw [wvs_length]; exact h), wvs_get _ _ h]

theorem index8 (a b c d e f g h : W32) (n : Nat) (hn : n < 8) (W : World) : (Instr.index 133 (.agg #[.int .u32 (wv a), .int .u32 (wv b), .int .u32 (wv c), .int .u32 (wv d), .int .u32 (wv e), .int .u32 (wv f), .int .u32 (wv g), .int .u32 (wv h)]) (.int .i64 (n : Int))).run Tryd.prog W = .ok (.int .u32 (wv (([a, b, c, d, e, f, g, h] : List W32).getD n 0))) W := by
  refine run_index_agg 133 114 8 _ n _ W Tryd.underlying133 (by kernel_rfl) _ Tryd.underlying114 rfl hn ?_
  have : n = 0 ∨ n = 1 ∨ n = 2 ∨ n = 3 ∨ n = 4 ∨ n = 5 ∨ n = 6 ∨ n = 7 := by omega
  rcases this with rfl | rfl | rfl | rfl | rfl | rfl | rfl | rfl <;> rfl
theorem add8 (s t : St) (n : Nat) (hn : n < 8) : s.l.getD n 0 + t.l.getD n 0 = (addSt s t).l.getD n 0 := by
  have : n = 0 ∨ n = 1 ∨ n = 2 ∨ n = 3 ∨ n = 4 ∨ n = 5 ∨ n = 6 ∨ n = 7 := by omega
  rcases this with rfl | rfl | rfl | rfl | rfl | rfl | rfl | rfl <;> rfl

set_option maxRecDepth 100000 in
set_option maxHeartbeats 4000000 in
theorem mix_any (p : Nat) (s : St) (blk : List UInt8) (held len : Int) (w : World) (hb : Blk w p 135 (wkc s blk held len)) (h64 : blk.length = 64) (hgl : Glob w) (hp : 1 < p ∧ 4 < p) :
    Calls Tryd.prog 100 #[.pointer (some ⟨p, 0, none⟩)] w (SetRet p 135 (wkc (mixB s blk) blk held len) w) := by
  have hplt := hb.lt
  have hwl : (wvs (words64 blk)).length = 64 := by rw [wvs_length]; exact words64_length blk
  have hone := wvs_one (words64 blk)
  have hi : (Tryd.prog.info? 142).map (·.size) = some (wvs (words64 blk)).length := by rw [hwl]; exact size64
  have hzl : (fill0 []).length = (wvs (words64 blk)).length := by rw [hwl]; exact fill0_length [] (by simp)
  have H1 := Lib.hid hone
  have H2 := Lib.hid hi
  have H3 := Lib.hid hzl
  have H4 := Lib.hid hwl
  clear hwl hone hi hzl
  go_enter Tryd.func100, Tryd.ntmps100
  go_wp2_with fail
  refine (words_any p s blk held len _ hb h64).mono ?_
  rintro e w1 ⟨rfl, hk1⟩
  go_wp2_with (with_reducible change wpList _ _ _ (⟨_, Op.alloc _, _, _, _, _⟩ :: _) _ _; refine wpList_alloc_blk rfl 142 rfl _ zero64 ?_)
  intro w2 hA2 hk2 hs2
  go_wp2_with (with_reducible change wpList _ _ _ (⟨_, Op.store _ _ _, _, _, _, _⟩ :: _) _ _; refine wpList_store_blk rfl 142 (.tmp 2) (.tmp 18) rfl w1.heap.size (wvs (words64 blk)) rfl rfl 142 (fill0 []) hA2 H2.out H3.out H1.out ?_)
  intro w3 hA3 hk3 hs3
  have hK3 : Kept [] w w3 := (hk1.andThen hk2).trans hk3 (by have := hk1.size; simp; omega)
  have hb3 := hb.kept0 hK3
  have hgl3 := hgl.kept0 hK3
  have hA3l := hA3.lt
  have hne : p ≠ w1.heap.size := by have := hk1.size; omega
  clear hA2 hk2 hk3 hs2 hs3 hk1
  generalize w1.heap.size = g at *
  go_wp2_with (first
    | (with_reducible change wpList _ _ _ (⟨_, Op.load _ _, _, _, _, _⟩ :: _) _ _; refine wpList_load_part rfl 133 (.tmp 21) rfl p 0 rfl 135 _ (wvs s.l) _ hb3 (wkc_head s blk held len) Tryd.underlying133 rfl (size8w s) ?_)
    | (with_reducible change wpList _ _ _ (⟨_, Op.alloc _, _, _, _, _⟩ :: _) _ _; refine wpList_alloc_blk rfl 133 rfl _ zero8 ?_))
  intro w4 hC4 hk4 hs4
  go_wp2_with (with_reducible change wpList _ _ _ (⟨_, Op.store _ _ _, _, _, _, _⟩ :: _) _ _; refine wpList_store_blk rfl 133 (.tmp 3) (.tmp 22) rfl w3.heap.size (wvs s.l) rfl rfl 133 z8 hC4 (size8w s) rfl (wvs_one _) ?_)
  intro w5 hC5 hk5 hs5
  have hK45 : Kept [] w3 w5 := hk4.trans hk5 (by simp)
  have hK5 : Kept [] w w5 := hK3.andThen hK45
  have hb5 := hb3.kept0 hK45
  have hA5 := hA3.kept0 hK45
  have hgl5 := hgl3.kept0 hK45
  have d0 : w5.cell? ⟨w3.heap.size, 0, none⟩ = some (.int .u32 (wv s.a)) := hC5.cell 0
  have d1 : w5.cell? ⟨w3.heap.size, 1, none⟩ = some (.int .u32 (wv s.b)) := hC5.cell 1
  have d2 : w5.cell? ⟨w3.heap.size, 2, none⟩ = some (.int .u32 (wv s.c)) := hC5.cell 2
  have d3 : w5.cell? ⟨w3.heap.size, 3, none⟩ = some (.int .u32 (wv s.d)) := hC5.cell 3
  have d4 : w5.cell? ⟨w3.heap.size, 4, none⟩ = some (.int .u32 (wv s.e)) := hC5.cell 4
  have d5 : w5.cell? ⟨w3.heap.size, 5, none⟩ = some (.int .u32 (wv s.f)) := hC5.cell 5
  have d6 : w5.cell? ⟨w3.heap.size, 6, none⟩ = some (.int .u32 (wv s.g)) := hC5.cell 6
  have d7 : w5.cell? ⟨w3.heap.size, 7, none⟩ = some (.int .u32 (wv s.h)) := hC5.cell 7
  clear hk4 hk5 hC4 hC5 hs4 hs5 hK45 hb3 hA3 hgl3 hK3 hb hgl hplt hA3l
  go_wp2
  go_quiet (fail)
  clear d0 d1 d2 d3 d4 d5 d6 d7
  go_wp2
  go_loopw [4, 5, 6, 7, 8, 9, 10, 11, 39] (fun va vb vc vd ve vf vg vh i wr => ∃ (n m : Nat) (t : St), n ≤ 64 ∧ Hid (t = rnds (words64 blk) s n) ∧ va = .int .u32 (wv t.a) ∧ vb = .int .u32 (wv t.b) ∧ vc = .int .u32 (wv t.c) ∧ vd = .int .u32 (wv t.d) ∧ ve = .int .u32 (wv t.e) ∧ vf = .int .u32 (wv t.f) ∧ vg = .int .u32 (wv t.g) ∧ vh = .int .u32 (wv t.h) ∧ i = .int .i64 n ∧ Hid (wr = w5.drewN m)) (fun _ _ _ _ _ _ _ _ i _ => 64 - (intOf i).toNat)
  case atStart => exact ⟨0, nq, s, by omega, Lib.hid rfl, rfl, rfl, rfl, rfl, rfl, rfl, rfl, rfl, rfl, Lib.hid rfl⟩
  case round =>
    obtain ⟨n, m, t, hn, Ht, rfl, rfl, rfl, rfl, rfl, rfl, rfl, rfl, rfl, Hw⟩ := hrel
    by_cases hlt : n < 64
    · have cK : wr.cell? ⟨4, n, none⟩ = some (.int .u32 (wv (ks.getD n 0))) := by rw [Hw.out]; exact hgl5.2 n hlt
      have cW : wr.cell? ⟨g, n, none⟩ = some (.int .u32 (wv ((words64 blk).getD n 0))) := by rw [Hw.out]; exact (hA5.cell n).trans (wvs_get (words64 blk) n (by rw [words64_length]; exact hlt))
      have Hr : Hid (rnds (words64 blk) s (n + 1) = rnd (ks.getD n 0) ((words64 blk).getD n 0) t) := by
        have := Ht.out
        show _ = _
        rw [this]; rfl
      generalize ks.getD n 0 = k at cK Hr
      generalize (words64 blk).getD n 0 = x at cW Hr
      have rx : ∀ x y : W32, bits .xor .u32 (wv x) (wv y) = wv (x ^^^ y) := bits_xorW
      have ra : ∀ x y : W32, bits .and .u32 (wv x) (wv y) = wv (x &&& y) := bits_andW
      have rn : ∀ x : W32, bits .xor .u32 IntKind.u32.max (wv x) = wv (~~~x) := notW
      have rw1 : ∀ x y : W32, IntKind.u32.wrap (wv x + wv y) = wv (x + y) := fun x y => (IntKind.wrap_u32' _).trans (wv_add x y)
      have rw2 : ∀ x y : W32, (wv x + wv y) % 4294967296 = wv (x + y) := wv_add
      have rw3 : ∀ a b c : W32, (wv a + wv b + wv c) % 4294967296 = wv (a + b + c) := wv_add3
      have rw4 : ∀ a b c d : W32, (wv a + wv b + wv c + wv d) % 4294967296 = wv (a + b + c + d) := wv_add4
      have hlz : (n : Int) < 64 := by omega
      obtain ⟨ta, tb, tc, td, te, tf, tg, th⟩ := t
      go_wp2
      go_quiet (first
        | (go_at_call 103; refine Calls.quiet_of (turn_at _ 6 _ _ rfl (by omega) (by omega)))
        | (go_at_call 103; refine Calls.quiet_of (turn_at _ 11 _ _ rfl (by omega) (by omega)))
        | (go_at_call 103; refine Calls.quiet_of (turn_at _ 25 _ _ rfl (by omega) (by omega))))
      go_wp2_with fail
      refine (turn_at _ 2 _ _ rfl (by omega) (by omega)).mono ?_
      rintro e w' ⟨rfl, m1, rfl⟩
      go_wp2_with fail
      refine (turn_at _ 13 _ _ rfl (by omega) (by omega)).mono ?_
      rintro e w' ⟨rfl, m2, rfl⟩
      go_wp2_with fail
      refine (turn_at _ 22 _ _ rfl (by omega) (by omega)).mono ?_
      rintro e w' ⟨rfl, m3, rfl⟩
      go_wp2
      go_roundw
      case rel => exact ⟨n + 1, m + (nq + m1 + m2 + m3), rnd k x ⟨ta, tb, tc, td, te, tf, tg, th⟩, by omega, Hr.out.symm, rfl, rfl, rfl, rfl, rfl, rfl, rfl, rfl, by go_num, by have := Hw.out; rw [this, World.drewN_drewN]; exact Lib.hid rfl⟩
      case measure => simp [intOf]; omega
    · obtain rfl : n = 64 := by omega
      have hbr : Blk wr p 135 (midc (addSt s t).l s.l 0 (bvs blk ++ [.int .i64 held, .int .u64 len])) := by rw [Hw.out]; exact hb5
      have hKr : Kept [] w wr := by rw [Hw.out]; exact hK5.drewN m
      have Hm : Hid (addSt s t = mixB s blk) := by
        have := Ht.out
        show _ = _
        rw [this, mixB_eq]
      clear Ht Hw hb5 hK5 hA5 hgl5 hne
      go_wp2
      rw [show ((64 : Nat) : Int) = 64 from rfl]
      go_loopw [111] (fun i wr => ∃ n : Nat, n ≤ 8 ∧ i = .int .i64 n ∧ Blk wr p 135 (midc (addSt s t).l s.l n (bvs blk ++ [.int .i64 held, .int .u64 len])) ∧ Kept [p] w wr) (fun i _ => 8 - (intOf i).toNat)
      case atStart => exact ⟨0, by omega, rfl, hbr, hKr.mono (by simp)⟩
      case round =>
        clear hbr hKr
        obtain ⟨n, hn, rfl, hB, hK⟩ := hrel
        by_cases hlt : n < 8
        · have hidx := index8 t.a t.b t.c t.d t.e t.f t.g t.h n hlt
          have hidl : ([t.a, t.b, t.c, t.d, t.e, t.f, t.g, t.h] : List W32) = t.l := rfl
          rw [hidl] at hidx
          have c1 := (hB.cell n).trans (midc_get (addSt s t).l s.l n _ rfl hlt)
          have f1 := hB.frz n
          have hset := midc_set (addSt s t).l s.l n (bvs blk ++ [.int .i64 held, .int .u64 len]) rfl hlt
          have hnew := hB.set n (.int .u32 (wv ((addSt s t).l.getD n 0)))
          rw [hset, ← add8 s t n hlt] at hnew
          have hKn : Kept [p] w (wr.setCell ⟨p, n, none⟩ (.int .u32 (wv (s.l.getD n 0 + t.l.getD n 0)))) := hK.setCell (by simp) _
          have rw1 : ∀ x y : W32, IntKind.u32.wrap (wv x + wv y) = wv (x + y) := fun x y => (IntKind.wrap_u32' _).trans (wv_add x y)
          have rw2 : ∀ x y : W32, (wv x + wv y) % 4294967296 = wv (x + y) := wv_add
          generalize s.l.getD n 0 = y at *
          generalize t.l.getD n 0 = z at *
          have hlz : (n : Int) < 8 := by omega
          clear hset hidl
          go_wp2
          go_still_tail 11, (by kernel_rfl)
          change wpList _ _ _ _ _ wr.drew
          go_wp2
          go_roundw
          case rel => exact ⟨n + 1, by omega, by go_num, hnew, hKn.drewN 1⟩
          case measure => simp [intOf]; omega
        · obtain rfl : n = 8 := by omega
          have hall := mid_all (addSt s t).l s.l rfl
          have hB2 : Blk wr p 135 (wkc (mixB s blk) blk held len) := by
            refine hB.of_eq ?_
            rw [← Hm.out]
            unfold midc wkc
            rw [show (8 : Nat) = s.l.length from rfl, hall]
          clear hall hB
          go_wp2
          go_end0
          exact ⟨rfl, hB2, hK⟩
end Go.Proofs.YtibcjbelcplpjaaDoor
/-
  A byte slice that is cut: what its pieces read as. No statement of the seed is proved here.
-/
namespace Go.Proofs.YtibcjbelcplpjaaDoor
open Go.RowKit

theorem RdB.drop {w : World} {A : Option Addr} {n c : Nat} {bs : List UInt8} (h : RdB w A n c bs) (k : Nat) (hk : k ≤ n) :
    RdB w (if c = k then A else A.map (·.add k)) (n - k) (c - k) (bs.drop k) := by
  have hl := h.len
  have hc := h.cap
  have hm := h.most
  refine ⟨by rw [List.length_drop, hl], by omega, by omega, fun hp => ?_⟩
  obtain ⟨b, off, rfl, hcell⟩ := h.cells (by omega)
  rw [if_neg (by omega)]
  have h2 : (⟨b, off, none⟩ : Addr).add k = ⟨b, off + k, none⟩ := by unfold Addr.add; split <;> simp_all
  refine ⟨b, off + k, by simp [h2], fun j hj => ?_⟩
  rw [List.length_drop] at hj
  have := hcell (k + j) (by omega)
  rw [List.getElem_drop, Nat.add_assoc]
  exact this
theorem RdB.take {w : World} {A : Option Addr} {n c : Nat} {bs : List UInt8} (h : RdB w A n c bs) (k : Nat) (hk : k ≤ n) : RdB w A k c (bs.take k) := by
  have hl := h.len
  have hc := h.cap
  refine ⟨by rw [List.length_take]; omega, by omega, h.most, fun hp => ?_⟩
  obtain ⟨b, off, e, hcell⟩ := h.cells (by omega)
  refine ⟨b, off, e, fun j hj => ?_⟩
  rw [List.length_take] at hj
  rw [List.getElem_take]
  exact hcell j (by omega)

theorem off_add {A : Option Addr} {S : List Nat} (h : Off A S) (k : Nat) : Off (A.map (·.add k)) S := by
  intro a ha
  rcases A with _ | b
  · cases ha
  · simp only [Option.map_some, Option.some.injEq] at ha
    subst ha
    have := h b rfl
    unfold Addr.add
    split <;> exact this

end Go.Proofs.YtibcjbelcplpjaaDoor
/-
  Helper words on memory, going on: a piece of a block stored whole. No statement of the seed is proved here.
-/
namespace Go.Proofs.YtibcjbelcplpjaaDoor
open Go.RowKit
set_option linter.unusedVariables false

theorem Blk.setCells {g : Nat} {t : TypeId} : ∀ (vs : List Value) (w : World) (L : List Value) (off : Nat), Blk w g t L → off + vs.length ≤ L.length → Blk (w.setCells g off vs) g t (splice L off vs)
  | [], w, L, off, h, _ => by rw [splice_nil]; exact h
  | v :: r, w, L, off, h, hl => by
    rw [List.length_cons] at hl
    have h1 := Blk.setCells r (w.setCell ⟨g, off, none⟩ v) (L.set off v) (off + 1) (h.set off v) (by rw [List.length_set]; omega)
    have e : splice (L.set off v) (off + 1) r = splice L off (v :: r) := by
      unfold splice
      have e1 : (L.set off v).take (off + 1) = L.take off ++ [v] := by
        rw [List.take_set, List.take_add_one, List.getElem?_eq_getElem (by omega)]
        rw [List.set_append_right _ _ (by rw [List.length_take]; omega)]
        congr 1
        rw [List.length_take, Nat.min_eq_left (by omega), Nat.sub_self]; rfl
      rw [e1, List.drop_set_of_lt (by omega), List.length_cons, show off + 1 + r.length = off + (r.length + 1) by omega]
      simp only [List.append_assoc, List.nil_append, List.cons_append]
    rw [← e]; exact h1
theorem kept_setCells {g : Nat} : ∀ (vs : List Value) (w : World) (off : Nat), Kept [g] w (w.setCells g off vs)
  | [], w, off => Kept.refl _ _
  | v :: r, w, off => ((Kept.refl [g] w).setCell (p := ⟨g, off, none⟩) (.inl (by simp)) v).trans (kept_setCells r _ _) (by simp)
theorem Blk.setAll {g : Nat} {t : TypeId} {w : World} {L vs : List Value} (h : Blk w g t L) (hl : L.length = vs.length) : Blk (w.setCells g 0 vs) g t vs := by
  have := Blk.setCells vs w L 0 h (by omega)
  have e : splice L 0 vs = vs := by unfold splice; rw [List.take_zero, List.nil_append, Nat.zero_add, ← hl, List.drop_length, List.append_nil]
  rwa [e] at this
theorem Blk.there {g : Nat} {t : TypeId} {w : World} {L : List Value} (h : Blk w g t L) (n : Nat) (hn : n = L.length) : w.there g 0 n := fun j hj => by
  rw [Nat.zero_add, h.cell, List.getElem?_eq_getElem (by omega)]
  exact ⟨rfl, h.frz j⟩
theorem Blk.thereAt {g : Nat} {t : TypeId} {w : World} {L : List Value} (h : Blk w g t L) (o n : Nat) (hn : o + n ≤ L.length) : w.there g o n := fun j hj => by
  rw [h.cell, List.getElem?_eq_getElem (by omega)]
  exact ⟨rfl, h.frz _⟩
theorem Blk.rangeOf {w : World} {g : Nat} {t : TypeId} {cs : List Value} (h : Blk w g t cs) : w.rangeAt g 0 cs := fun j v hv => by rw [Nat.zero_add, h.cell]; exact hv
/-- A region that draws, all of whose operations but the last ones read: an array or a struct loaded whole. -/
theorem wpStill_load_blk {P : Program} {ops : Array Oper} {rest : List Oper} {o : Oper} {a : Act} {w : World} {Q : Act → Prop} (hgd : o.guard = none) (ty : TypeId) (x : Operand) (ho : o.op = .load ty x)
    (g off : Nat) (hx : a.eval x = .pointer (some ⟨g, off, none⟩)) (cs : List Value) (d : TypeDesc) (hc : w.rangeAt g off cs) (hu : P.underlying ty = some d) (hd : d.isRow = true) (hi : (P.info? ty).map (·.size) = some cs.length)
    (h : wpStill P ops w Q rest (a.put o.dst (.agg cs.toArray))) : wpStill P ops w Q (o :: rest) a := by
  unfold wpStill
  rw [if_pos (by simp [Region.wanted, hgd])]
  unfold Oper.still execOp
  simp only [ho, hx, Instr.loadAt, Instr.sureAddr, Sem.run_bind, Sem.run_pure, Result.andThen_ok, run_loadVar_mid w g off ty cs d hc hu hd hi, Oper.stillUpon]
  exact ⟨trivial, h⟩
theorem OwB.blk {e : TypeId} {w : World} {g n : Nat} {bs : List UInt8} (h : OwB e w (.slice (some ⟨g, 0, none⟩) n n) bs) : Blk w g e (bvs bs) := by
  have hl := h.rd.len
  unfold OwB at h
  rcases h.2 with ⟨e1, _⟩ | ⟨g', cap, cur, e1, _, hg, _, _, hcs, ht⟩
  · cases e1
  · injection e1 with e1 e2 e3
    injection e1 with e1; injection e1 with e1
    subst e1 e3
    have : cur = (bvs bs).toArray := by
      rw [← ht, List.take_of_length_le (by simp; omega)]
    subst this
    exact hg
theorem Blk.own {e : TypeId} {w : World} {g n : Nat} {bs : List UInt8} (h : Blk w g e (bvs bs)) (hl : bs.length = n) (hn : n ≤ maxLen) : OwB e w (.slice (some ⟨g, 0, none⟩) n n) bs := by
  subst hl
  exact ⟨by rw [bvs_length, Nat.mul_one], .inr ⟨g, _, _, rfl, Nat.zero_le _, h, Nat.le_refl _, hn, by simp [bvs], by rw [Nat.mul_one, List.take_of_length_le (by simp [bvs])]⟩⟩
end Go.Proofs.YtibcjbelcplpjaaDoor
