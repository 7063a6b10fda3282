/-
  Contracts of the reader's functions of layer 1 (bin), over this seat's program. No statement of the seed is proved here.
-/
import Derived.Test.YtfkhlnhnanimkaaLaw1a
import Derived.Test.YtfkhlnhnanimkaaLaw1b
import Derived.Deep.QuietTactic
import Derived.BigQuiet
import Derived.Laws.BitsAllLaws
namespace Go.Proofs.Ytfkhlnhnanimkaa
open Go.RowKit
set_option linter.unusedVariables false

theorem or_byte (x : Nat) (y : UInt8) (h : x < 72057594037927936) : bits .or .u64 ((x : Int) * 256) (y.toNat : Int) = (x : Int) * 256 + (y.toNat : Int) := by
  have hy := y.toNat_lt
  have e : (x : Int) * 256 = ((x * 256 : Nat) : Int) := by omega
  rw [e, u64_or_nat _ _ (by omega) (by omega), nat_join 8 _ _ (by omega) (by omega)]
  omega

theorem number_any (A : Option Addr) (n c : Nat) (bs : List UInt8) (w : World) (hr : RdB w A n c bs) (hn : n ≤ 8) :
    Calls Try.prog 36 #[.slice A n c] w fun e w' => e = .returned (.int .u64 (num bs)) ∧ w = w' := by
  go_enter Try.func36, Try.ntmps36
  go_wp2
  go_loop [3, 7] (fun x i => ∃ k : Nat, k ≤ n ∧ i = .int .i64 k ∧ x = .int .u64 (num (bs.take k))) (fun _ i => n - (intOf i).toNat)
  case atStart => exact ⟨0, by omega, rfl, rfl⟩
  case round =>
    obtain ⟨k, hk, rfl, rfl⟩ := hrel
    by_cases hlt : k < n
    · have hx : num (bs.take k) < 72057594037927936 := by
        have hb := num_lt (bs.take k)
        have h2 : (256 : Nat) ^ (bs.take k).length ≤ 256 ^ 7 := Nat.pow_le_pow_right (by omega) (by rw [List.length_take]; omega)
        omega
      obtain ⟨b, off, y, rfl, c1, hy1, hy⟩ := hr.byte hlt
      have hts : num (bs.take (k + 1)) = num (bs.take k) * 256 + y.toNat := by
        rw [take_step _ _ _ hy1, num_snoc]
      have H := Lib.hid hts
      clear hts hy1
      generalize num (bs.take k) = x at *
      have hor := or_byte x y hx
      go_wp2
      go_round
      case rel => exact ⟨k + 1, by omega, by go_num, by rw [H.out]; congr 1⟩
      case measure => simp [intOf]; omega
    · have hl := hr.len
      have e : bs.take k = bs := List.take_of_length_le (by omega)
      have hk2 : k = n := by omega
      have H := Lib.hid e
      clear e hl hk2
      go_wp2
      go_ret
      exact ⟨ret_int (by rw [H.out]), rfl⟩

/-- At block r lies a reader of bs that has taken k bytes. -/
def Rea (w : World) (r : Nat) (bs : List UInt8) (k : Nat) : Prop :=
  ∃ A n c, w.heap[r]? = some (.cells #[.slice A n c, .int .i64 k] 70 (0, 0)) ∧ RdB w A n c bs ∧ k ≤ n ∧ ∀ a : Addr, A = some a → a.block < r
theorem off_of_lt {A : Option Addr} {r : Nat} (h : ∀ a : Addr, A = some a → a.block < r) : Off A [r] := fun a ha => by
  have := h a ha
  simp only [List.mem_singleton]
  omega
theorem Rea.lt {w : World} {r : Nat} {bs : List UInt8} {k : Nat} (h : Rea w r bs k) : r < w.heap.size := by
  obtain ⟨_, _, _, hp, _⟩ := h
  exact (Array.getElem?_eq_some_iff.1 hp).1
theorem Rea.le {w : World} {r : Nat} {bs : List UInt8} {k : Nat} (h : Rea w r bs k) : k ≤ bs.length := by
  obtain ⟨A, n, c, hp, hr, hk, hs⟩ := h
  have := hr.len
  omega
theorem Rea.kept0 {w w' : World} {r : Nat} {bs : List UInt8} {k : Nat} (h : Rea w r bs k) (hk : Kept [] w w') : Rea w' r bs k := by
  have hl := h.lt
  obtain ⟨A, n, c, hp, hr, hkn, ho⟩ := h
  exact ⟨A, n, c, (hk.block r hl (by simp)).trans hp, hr.kept0 hk, hkn, ho⟩
theorem Rea.keptS {w w' : World} {r : Nat} {bs : List UInt8} {k : Nat} {S : List Nat} (h : Rea w r bs k) (hk : Kept S w w') (hS : ∀ i, i ∈ S → r < i) : Rea w' r bs k := by
  have hl := h.lt
  obtain ⟨A, n, c, hp, hr, hkn, ho⟩ := h
  exact ⟨A, n, c, (hk.block r hl (fun hm => by have := hS r hm; omega)).trans hp, hr.kept hk (fun a ha hm => by have := ho a ha; have := hS _ hm; omega), hkn, ho⟩
theorem Rea.moved {w : World} {r : Nat} {bs : List UInt8} {k j : Nat} (h : Rea w r bs k) (hj : j ≤ bs.length) : Rea (w.setCell ⟨r, 1, none⟩ (.int .i64 j)) r bs j := by
  obtain ⟨A, n, c, hp, hr, hkn, ho⟩ := h
  have hl := hr.len
  refine ⟨A, n, c, ?_, hr.kept (S := [r]) ((Kept.refl _ _).setCell (by simp) _) (off_of_lt ho), by omega, ho⟩
  rw [heap_setCell_same w r 1 _ _ _ hp]
  rfl

theorem RdB.drop {w : World} {A : Option Addr} {n c : Nat} {bs : List UInt8} (h : RdB w A n c bs) (k : Nat) (hk : k ≤ n) :
    RdB w (if c = k then A else A.map (·.add k)) (n - k) (c - k) (bs.drop k) := by
  have hl := h.len
  have hc := h.cap
  have hm := h.most
  refine ⟨by rw [List.length_drop, hl], by omega, by omega, fun hp => ?_⟩
  obtain ⟨b, off, rfl, hcell⟩ := h.cells (by omega)
  rw [if_neg (by omega)]
  have h2 : (⟨b, off, none⟩ : Addr).add k = ⟨b, off + k, none⟩ := by unfold Addr.add; split <;> simp_all
  refine ⟨b, off + k, by simp [h2], fun j hj => ?_⟩
  rw [List.length_drop] at hj
  have := hcell (k + j) (by omega)
  rw [List.getElem_drop, Nat.add_assoc]
  exact this
theorem RdB.take {w : World} {A : Option Addr} {n c : Nat} {bs : List UInt8} (h : RdB w A n c bs) (k : Nat) (hk : k ≤ n) : RdB w A k c (bs.take k) := by
  have hl := h.len
  have hc := h.cap
  refine ⟨by rw [List.length_take]; omega, by omega, h.most, fun hp => ?_⟩
  obtain ⟨b, off, e, hcell⟩ := h.cells (by omega)
  refine ⟨b, off, e, fun j hj => ?_⟩
  rw [List.length_take] at hj
  rw [List.getElem_take]
  exact hcell j (by omega)

theorem off_add {A : Option Addr} {S : List Nat} (h : Off A S) (k : Nat) : Off (A.map (·.add k)) S := by
  intro a ha
  rcases A with _ | b
  · cases ha
  · simp only [Option.map_some, Option.some.injEq] at ha
    subst ha
    have := h b rfl
    unfold Addr.add
    split <;> exact this

/-- What is left: a slice into the reader's own text. -/
def LeftRet (r : Nat) (bs : List UInt8) (k : Nat) (w : World) (e : Ending) (w' : World) : Prop :=
  ∃ A n c m, e = .returned (.slice A n c) ∧ w' = w.drewN m ∧ RdB w A n c (bs.drop k) ∧ Off A [r]

theorem left_any (r : Nat) (bs : List UInt8) (k : Nat) (w : World) (hr : Rea w r bs k) : Calls Try.prog 35 #[.pointer (some ⟨r, 0, none⟩)] w (LeftRet r bs k w) := by
  obtain ⟨A, n, c, hp, hrd, hk, ho⟩ := hr
  have c0 : w.cell? ⟨r, 0, none⟩ = some (.slice A n c) := by rw [cell_of_row w r 0 _ _ _ hp]; rfl
  have c1 : w.cell? ⟨r, 1, none⟩ = some (.int .i64 k) := by rw [cell_of_row w r 1 _ _ _ hp]; rfl
  have hc := hrd.cap
  have hm := hrd.most
  unfold maxLen at hm
  go_enter Try.func35, Try.ntmps35
  go_wp2
  go_quiet (fail)
  go_wp2
  all_goals go_ret
  all_goals refine ⟨_, _, _, nq, rfl, rfl, ?_, ?_⟩
  all_goals have hd := hrd.drop k hk
  · have e : c = k := by assumption
    rw [if_pos e, e, Nat.sub_self] at hd
    exact hd
  · exact off_of_lt ho
  · have e : ¬ c = k := by assumption
    rw [if_neg e] at hd
    exact hd
  · exact off_add (off_of_lt ho) k

theorem rNew_any (A : Option Addr) (n c : Nat) (bs : List UInt8) (w : World) (hr : RdB w A n c bs) (hn : n ≤ 140737488355328) :
    Calls Try.prog 19 #[.slice A n c] w fun e w' => ∃ r, e = .returned (.pointer (some ⟨r, 0, none⟩)) ∧ Rea w' r bs 0 ∧ Kept [] w w' ∧ w.heap.size ≤ r := by
  go_enter Try.func19, Try.ntmps19
  go_wp2_with fail
  refine (clone_any A n c bs _ hr hn).mono ?_
  rintro e w1 ⟨v, rfl, ho, hk, hf⟩
  obtain ⟨A1, n1, c1, rfl, hrd, hbl⟩ := ho.form
  have hs := hk.size
  go_wp2
  go_ret
  refine ⟨_, rfl, ⟨A1, n1, c1, heap_alloc_new w1 _, hrd.alloc _, Nat.zero_le _, ?_⟩, hk.alloc _, hs⟩
  intro a ha
  subst ha
  exact hbl a.block rfl

/-- What is told of a small number. -/
def SmRet (bs : List UInt8) (most : Nat) (w : World) (e : Ending) (w' : World) : Prop :=
  ∃ x s er : Nat, tsm bs most = (x, s, er) ∧ e = .returned (.tuple #[.int .u64 x, .int .i64 s, .int .i64 er]) ∧ w = w'

theorem small_none (A : Option Addr) (c : Nat) (most : Int) (w : World) : Calls Try.prog 38 #[.slice A 0 c, .int .u64 most] w (SmRet [] most.toNat w) := by
  go_enter Try.func38, Try.ntmps38
  go_wp2
  go_ret3
  exact ⟨0, 0, 1, rfl, rfl, rfl⟩

theorem small_lone (A : Option Addr) (n c : Nat) (b : UInt8) (rest : List UInt8) (most : Int) (w : World) (hr : RdB w A n c (b :: rest)) (h0 : 0 ≤ most) (hb : b.toNat ≤ 250) :
    Calls Try.prog 38 #[.slice A n c, .int .u64 most] w (SmRet (b :: rest) most.toNat w) := by
  have hl := hr.len
  have hc := hr.cap
  have hm := hr.most
  unfold maxLen at hm
  have hn : 0 < n := by rw [← hl]; simp
  obtain ⟨bk, off, y, rfl, c1, hy1, hy⟩ := hr.byte hn
  obtain rfl : b = y := by simpa using hy1
  have hmx : max ((b.toNat : Int) - 250) 0 = 0 := by omega
  have hn5 : ((b.toNat : Int) == 255) = false := by simp; omega
  rw [Nat.add_zero] at c1
  clear hl hy1
  by_cases hmost : most.toNat < b.toNat
  · have hg : most < (b.toNat : Int) := by omega
    have ht : tsm (b :: rest) most.toNat = (0, 0, 3) := by
      unfold tsm; simp only; rw [if_neg (by omega), if_pos hb, if_pos hmost]
    have H := Lib.hid ht
    clear ht
    go_enter Try.func38, Try.ntmps38
    go_wp2_with fail
    refine (follow_lo _ _ (by omega) (by omega)).mono ?_
    rintro e w1 ⟨rfl, rfl⟩
    go_wp2
    go_ret3
    exact ⟨0, 0, 3, H.out, rfl, rfl⟩
  · have hg : (b.toNat : Int) ≤ most := by omega
    have ht : tsm (b :: rest) most.toNat = (b.toNat, 1, 0) := by
      unfold tsm; simp only; rw [if_neg (by omega), if_pos hb, if_neg hmost]
    have H := Lib.hid ht
    clear ht
    go_enter Try.func38, Try.ntmps38
    go_wp2_with fail
    refine (follow_lo _ _ (by omega) (by omega)).mono ?_
    rintro e w1 ⟨rfl, rfl⟩
    go_wp2
    go_ret3
    exact ⟨b.toNat, 1, 0, H.out, rfl, rfl⟩

theorem small_more (A : Option Addr) (n c : Nat) (b : UInt8) (rest : List UInt8) (most : Int) (w : World) (hr : RdB w A n c (b :: rest)) (h0 : 0 ≤ most) (hb : 250 < b.toNat) :
    Calls Try.prog 38 #[.slice A n c, .int .u64 most] w (SmRet (b :: rest) most.toNat w) := by
  have hl := hr.len
  have hc := hr.cap
  have hm := hr.most
  unfold maxLen at hm
  have hn : 0 < n := by rw [← hl]; simp
  have hrl : rest.length + 1 = n := by rw [← hl]; simp
  obtain ⟨bk, off, y, rfl, c1, hy1, hy⟩ := hr.byte hn
  obtain rfl : b = y := by simpa using hy1
  rw [Nat.add_zero] at c1
  by_cases h5 : b.toNat = 255
  · have ht : tsm (b :: rest) most.toNat = (0, 0, 2) := by
      unfold tsm; simp only; rw [if_pos h5]
    have H := Lib.hid ht
    have e5 : ((b.toNat : Int) == 255) = true := by simp; omega
    clear ht hl hy1 hrl h5
    go_enter Try.func38, Try.ntmps38
    go_wp2
    go_ret3
    exact ⟨0, 0, 2, H.out, rfl, rfl⟩
  obtain ⟨d, hd⟩ : ∃ d : Nat, b.toNat = 250 + d := ⟨b.toNat - 250, by omega⟩
  have hd1 : 1 ≤ d := by omega
  have hd4 : d ≤ 4 := by omega
  have c2 : w.cell? ⟨bk, off, none⟩ = some (.int .u8 (250 + (d : Int))) := by rw [c1, hd]; simp
  have hmx : max (250 + (d : Int) - 250) 0 = d := by omega
  have hn5 : (250 + (d : Int) == 255) = false := by simp; omega
  have ht0 : ∀ m, tsm (b :: rest) m = if rest.length < d then (0, 0, 1) else if fol (num (rest.take d)) ≠ d then (0, 0, 2) else if m < num (rest.take d) then (0, 0, 3) else (num (rest.take d), 1 + d, 0) := by
    intro m
    unfold tsm; simp only
    rw [if_neg h5, if_neg (by omega), hd, Nat.add_sub_cancel_left]
  have ht := Lib.hid (ht0 most.toNat)
  clear ht0 c1 hd hy1 hl h5
  by_cases hs : rest.length < d
  · have hlt : (n : Int) < 1 + d := by omega
    clear hrl
    go_enter Try.func38, Try.ntmps38
    go_wp2
    go_ret3
    exact ⟨0, 0, 1, by rw [ht.out, if_pos hs], rfl, rfl⟩
  have hlt : 1 + (d : Int) ≤ (n : Int) := by omega
  have hrd : RdB w (some ⟨bk, off + 1, none⟩) d (c - 1) (rest.take d) := by
    have h1 := (hr.drop 1 (by omega)).take d (by omega)
    rw [if_neg (by omega)] at h1
    simpa [Addr.add] using h1
  have hN := num_lt (rest.take d)
  have hlen : (rest.take d).length = d := by rw [List.length_take]; omega
  have hN2 : num (rest.take d) < 4294967296 := by
    have h2 : (256 : Nat) ^ (rest.take d).length ≤ 256 ^ 4 := Nat.pow_le_pow_right (by omega) (by omega)
    omega
  have H1 := Lib.hid hrl
  have hn2 : 1 + d ≤ n := by omega
  have hs2 := Lib.hid hs
  clear hrl hN hlen hs
  generalize hx : num (rest.take d) = x at *
  by_cases hlo : x ≤ 250
  · have hne : ((0 : Int) != (d : Int)) = true := by simp; omega
    have HX := Lib.hid hx
    clear hx
    go_enter Try.func38, Try.ntmps38
    go_wp2_with fail
    refine (number_any _ _ _ _ _ hrd (by omega)).mono ?_
    rintro e w1 ⟨rfl, rfl⟩
    rw [HX.out]
    go_wp2_with fail
    refine (follow_lo _ _ (by omega) (by omega)).mono ?_
    rintro e w1 ⟨rfl, rfl⟩
    go_wp2
    go_ret3
    refine ⟨0, 0, 2, ?_, rfl, rfl⟩
    rw [ht.out, if_neg hs2.out, if_pos]
    unfold fol; rw [if_pos hlo]; omega
  · have HX := Lib.hid hx
    clear hx
    by_cases hwd : wid x = d
    · have hne : ((d : Int) != (d : Int)) = false := by simp
      have HW := Lib.hid hwd
      clear hwd
      by_cases hg : most < (x : Int)
      · go_enter Try.func38, Try.ntmps38
        go_wp2_with fail
        refine (number_any _ _ _ _ _ hrd (by omega)).mono ?_
        rintro e w1 ⟨rfl, rfl⟩
        rw [HX.out]
        go_wp2_with fail
        refine (follow_hi _ _ (by omega) (by omega)).mono ?_
        rintro e w1 ⟨rfl, rfl⟩
        rw [Int.toNat_natCast, HW.out]
        go_wp2
        go_ret3
        refine ⟨0, 0, 3, ?_, rfl, rfl⟩
        rw [ht.out, if_neg hs2.out, if_neg, if_pos (by omega)]
        unfold fol; rw [if_neg (by omega), HW.out]; simp
      · go_enter Try.func38, Try.ntmps38
        go_wp2_with fail
        refine (number_any _ _ _ _ _ hrd (by omega)).mono ?_
        rintro e w1 ⟨rfl, rfl⟩
        rw [HX.out]
        go_wp2_with fail
        refine (follow_hi _ _ (by omega) (by omega)).mono ?_
        rintro e w1 ⟨rfl, rfl⟩
        rw [Int.toNat_natCast, HW.out]
        go_wp2
        go_ret3
        refine ⟨x, 1 + d, 0, ?_, by simp, rfl⟩
        rw [ht.out, if_neg hs2.out, if_neg, if_neg (by omega)]
        unfold fol; rw [if_neg (by omega), HW.out]; simp
    · have hne : ((wid x : Int) != (d : Int)) = true := by simp; omega
      have hwp := wid_pos x
      go_enter Try.func38, Try.ntmps38
      go_wp2_with fail
      refine (number_any _ _ _ _ _ hrd (by omega)).mono ?_
      rintro e w1 ⟨rfl, rfl⟩
      rw [HX.out]
      go_wp2_with fail
      refine (follow_hi _ _ (by omega) (by omega)).mono ?_
      rintro e w1 ⟨rfl, rfl⟩
      rw [Int.toNat_natCast]
      go_wp2
      go_ret3
      refine ⟨0, 0, 2, ?_, rfl, rfl⟩
      rw [ht.out, if_neg hs2.out, if_pos]
      unfold fol; rw [if_neg (by omega)]; exact hwd

theorem small_any (A : Option Addr) (n c : Nat) (bs : List UInt8) (most : Int) (w : World) (hr : RdB w A n c bs) (h0 : 0 ≤ most) :
    Calls Try.prog 38 #[.slice A n c, .int .u64 most] w (SmRet bs most.toNat w) := by
  cases bs with
  | nil =>
    obtain rfl : 0 = n := hr.len
    exact small_none A c most w
  | cons b rest =>
    by_cases hb : b.toNat ≤ 250
    · exact small_lone A n c b rest most w hr h0 hb
    · exact small_more A n c b rest most w hr h0 (by omega)
end Go.Proofs.Ytfkhlnhnanimkaa
