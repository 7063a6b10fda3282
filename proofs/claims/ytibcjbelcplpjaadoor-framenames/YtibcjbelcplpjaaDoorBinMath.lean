/-
  Plain mathematics of layer 1: bytes of numbers, small numbers. Nothing of the program here.
-/
import Derived.WalkKit
namespace Go.Proofs.YtibcjbelcplpjaaDoor

theorem snoc_ind {α : Type} {P : List α → Prop} (h0 : P []) (hs : ∀ l b, P l → P (l ++ [b])) (l : List α) : P l := by
  have h : ∀ r : List α, P r.reverse := by
    intro r
    induction r with
    | nil => exact h0
    | cons b r ih => rw [List.reverse_cons]; exact hs _ _ ih
  have := h l.reverse
  rwa [List.reverse_reverse] at this

/-- The lowest n bytes of x, the highest first. -/
def be : Nat → Nat → List UInt8
  | 0, _ => []
  | n + 1, x => be n (x / 256) ++ [UInt8.ofNat x]
theorem be_length : ∀ n x, (be n x).length = n
  | 0, _ => rfl
  | n + 1, x => by simp [be, be_length n]
/-- The number that bytes tell, the highest first. -/
def num (bs : List UInt8) : Nat := bs.foldl (fun x b => x * 256 + b.toNat) 0
theorem num_snoc (bs : List UInt8) (b : UInt8) : num (bs ++ [b]) = num bs * 256 + b.toNat := by simp [num]
theorem take_step {α : Type} (l : List α) (k : Nat) (y : α) (h : l[k]? = some y) : l.take (k + 1) = l.take k ++ [y] := by
  obtain ⟨hk, e⟩ := List.getElem?_eq_some_iff.1 h
  rw [List.take_succ_eq_append_getElem hk, e]
theorem ofNat_toNat (x : Nat) : (UInt8.ofNat x).toNat = x % 256 := by simp
theorem num_be : ∀ n x, x < 256 ^ n → num (be n x) = x
  | 0, x, h => by simp at h; subst h; rfl
  | n + 1, x, h => by
    rw [be, num_snoc, num_be n (x / 256) (by rw [Nat.pow_succ] at h; omega), ofNat_toNat]
    omega
theorem num_lt (bs : List UInt8) : num bs < 256 ^ bs.length := by
  refine snoc_ind (P := fun bs => num bs < 256 ^ bs.length) (by simp [num]) (fun l b ih => ?_) bs
  · show num (l ++ [b]) < 256 ^ (l ++ [b]).length
    rw [num_snoc, List.length_append, List.length_singleton, Nat.pow_succ]
    have := b.toNat_lt
    omega
theorem be_num (bs : List UInt8) : be bs.length (num bs) = bs := by
  refine snoc_ind (P := fun bs => be bs.length (num bs) = bs) rfl (fun l b ih => ?_) bs
  · show be (l ++ [b]).length (num (l ++ [b])) = l ++ [b]
    rw [List.length_append, List.length_singleton, be, num_snoc]
    have hb := b.toNat_lt
    have e : (num l * 256 + b.toNat) / 256 = num l := by omega
    have e2 : UInt8.ofNat (num l * 256 + b.toNat) = b := by
      apply UInt8.toNat_inj.1
      rw [ofNat_toNat]
      omega
    rw [e, e2, ih]

/-- How many bytes a number below 2^64 needs, at least one. -/
def wid (x : Nat) : Nat :=
  if x < 256 then 1 else if x < 65536 then 2 else if x < 16777216 then 3 else if x < 4294967296 then 4 else if x < 1099511627776 then 5 else if x < 281474976710656 then 6 else if x < 72057594037927936 then 7 else 8
theorem wid_pos (x : Nat) : 1 ≤ wid x ∧ wid x ≤ 8 := by unfold wid; split <;> (try split) <;> (try split) <;> (try split) <;> (try split) <;> (try split) <;> (try split) <;> omega
theorem wid_small (x : Nat) (h : x < 4294967296) : wid x ≤ 4 := by unfold wid; split <;> (try split) <;> (try split) <;> (try split) <;> omega
theorem wid_lt (x : Nat) (h : x < 18446744073709551616) : x < 256 ^ wid x := by
  unfold wid; split <;> (try split) <;> (try split) <;> (try split) <;> (try split) <;> (try split) <;> (try split) <;> simp <;> omega
theorem wid_le (x n : Nat) (h0 : 1 ≤ n) (h8 : n ≤ 8) (hx : x < 18446744073709551616) : wid x ≤ n ↔ x < 256 ^ n := by
  have h : n = 1 ∨ n = 2 ∨ n = 3 ∨ n = 4 ∨ n = 5 ∨ n = 6 ∨ n = 7 ∨ n = 8 := by omega
  unfold wid
  rcases h with rfl | rfl | rfl | rfl | rfl | rfl | rfl | rfl <;> (split <;> (try split) <;> (try split) <;> (try split) <;> (try split) <;> (try split) <;> (try split) <;> simp <;> omega)
theorem wid_div (z : Nat) (h : 255 < z) (h2 : z < 18446744073709551616) : wid (z / 256) + 1 = wid z := by
  have e1 : (z / 256 < 256) = (z < 65536) := by simp; omega
  have e2 : (z / 256 < 65536) = (z < 16777216) := by simp; omega
  have e3 : (z / 256 < 16777216) = (z < 4294967296) := by simp; omega
  have e4 : (z / 256 < 4294967296) = (z < 1099511627776) := by simp; omega
  have e5 : (z / 256 < 1099511627776) = (z < 281474976710656) := by simp; omega
  have e6 : (z / 256 < 281474976710656) = (z < 72057594037927936) := by simp; omega
  unfold wid
  simp only [e1, e2, e3, e4, e5, e6]
  rw [if_neg (by omega : ¬ z < 256)]
  split <;> (try split) <;> (try split) <;> (try split) <;> (try split) <;> (try split) <;> (try split) <;> omega
/-- How many bytes follow a small number's first one. -/
def fol (x : Nat) : Nat := if x ≤ 250 then 0 else wid x
/-- A small number's bytes. -/
def sm (x : Nat) : List UInt8 := if x ≤ 250 then [UInt8.ofNat x] else UInt8.ofNat (250 + wid x) :: be (wid x) x
theorem sm_length (x : Nat) : (sm x).length = 1 + fol x := by unfold sm fol; split <;> simp [be_length] <;> omega

/-- A small number that bytes begin with: the number, how many bytes tell it, the error (then both are 0). -/
def tsm (bs : List UInt8) (most : Nat) : Nat × Nat × Nat :=
  match bs with
  | [] => (0, 0, 1)
  | b :: rest =>
    if b.toNat = 255 then (0, 0, 2)
    else if b.toNat ≤ 250 then (if most < b.toNat then (0, 0, 3) else (b.toNat, 1, 0))
    else if rest.length < b.toNat - 250 then (0, 0, 1)
    else if fol (num (rest.take (b.toNat - 250))) ≠ b.toNat - 250 then (0, 0, 2)
    else if most < num (rest.take (b.toNat - 250)) then (0, 0, 3)
    else (num (rest.take (b.toNat - 250)), 1 + (b.toNat - 250), 0)
/-- A number of n bytes that bytes begin with. -/
def tnum (bs : List UInt8) (n : Int) : Nat × Nat × Nat :=
  if n < 1 ∨ 8 < n then (0, 0, 14) else if bs.length < n.toNat then (0, 0, 1) else (num (bs.take n.toNat), n.toNat, 0)
/-- A text that bytes begin with. -/
def ttext (bs : List UInt8) (most : Int) : List UInt8 × Nat × Nat :=
  if (tsm bs (max most 0).toNat).2.2 ≠ 0 then ([], 0, (tsm bs (max most 0).toNat).2.2)
  else if bs.length - (tsm bs (max most 0).toNat).2.1 < (tsm bs (max most 0).toNat).1 then ([], 0, 1)
  else ((bs.drop (tsm bs (max most 0).toNat).2.1).take (tsm bs (max most 0).toNat).1, (tsm bs (max most 0).toNat).2.1 + (tsm bs (max most 0).toNat).1, 0)
/-- What is told of a small number is below 2^32, and its bytes are there. -/
theorem tsm_le (bs : List UInt8) (most : Nat) : (tsm bs most).1 < 4294967296 ∧ (tsm bs most).2.1 ≤ bs.length ∧ (tsm bs most).2.1 ≤ 5 ∧ (tsm bs most).2.2 ≤ 3 ∧ ((tsm bs most).2.2 ≠ 0 → tsm bs most = (0, 0, (tsm bs most).2.2)) := by
  unfold tsm
  split
  · simp
  · rename_i b rest
    have hb := b.toNat_lt
    split
    · simp
    · split
      · split <;> simp; omega
      · split
        · simp
        · split
          · simp
          · split
            · simp
            · rename_i h1 _ h3 _ _
              have hlen : (rest.take (b.toNat - 250)).length = b.toNat - 250 := by rw [List.length_take]; omega
              have hN := num_lt (rest.take (b.toNat - 250))
              have h2 : (256 : Nat) ^ (rest.take (b.toNat - 250)).length ≤ 256 ^ 4 := Nat.pow_le_pow_right (by omega) (by omega)
              simp
              omega
end Go.Proofs.YtibcjbelcplpjaaDoor
