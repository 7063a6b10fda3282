/-
  Contracts of the reader's functions of layer 1 (bin), over this seat's program. No statement of the seed is proved here.
-/
import Derived.Test.YtibcjbelcplpjaaDoorPd
import Derived.Test.YtibcjbelcplpjaaDoorRdN
import Derived.Test.YtibcjbelcplpjaaDoorBin2
import Derived.Deep.QuietTactic
import Derived.BigQuiet
import Derived.Laws.BitsAllLaws
namespace Go.Proofs.YtibcjbelcplpjaaDoor
open Go.RowKit
set_option linter.unusedVariables false

/-- What is told of a small number. -/
def SmRet (bs : List UInt8) (most : Nat) (w : World) (e : Ending) (w' : World) : Prop :=
  ∃ x s er : Nat, tsm bs most = (x, s, er) ∧ e = .returned (.tuple #[.int .u64 x, .int .i64 s, .int .i64 er]) ∧ w = w'

theorem small_none (A : Option Addr) (c : Nat) (most : Int) (w : World) : Calls Tryd.prog 78 #[.slice A 0 c, .int .u64 most] w (SmRet [] most.toNat w) := by
  go_enter Tryd.func78, Tryd.ntmps78
  go_wp2
  go_ret3
  exact ⟨0, 0, 1, rfl, rfl, rfl⟩

theorem small_lone (A : Option Addr) (n c : Nat) (b : UInt8) (rest : List UInt8) (most : Int) (w : World) (hr : RdB w A n c (b :: rest)) (h0 : 0 ≤ most) (hb : b.toNat ≤ 250) :
    Calls Tryd.prog 78 #[.slice A n c, .int .u64 most] w (SmRet (b :: rest) most.toNat w) := by
  have hl := hr.len
  have hc := hr.cap
  have hm := hr.most
  unfold maxLen at hm
  have hn : 0 < n := by rw [← hl]; simp
  obtain ⟨bk, off, y, rfl, c1, hy1, hy⟩ := hr.byte hn
  obtain rfl : b = y := by simpa using hy1
  have hmx : max ((b.toNat : Int) - 250) 0 = 0 := by omega
  have hn5 : ((b.toNat : Int) == 255) = false := by simp; omega
  rw [Nat.add_zero] at c1
  clear hl hy1
  by_cases hmost : most.toNat < b.toNat
  · have hg : most < (b.toNat : Int) := by omega
    have ht : tsm (b :: rest) most.toNat = (0, 0, 3) := by
      unfold tsm; simp only; rw [if_neg (by omega), if_pos hb, if_pos hmost]
    have H := Lib.hid ht
    clear ht
    go_enter Tryd.func78, Tryd.ntmps78
    go_wp2_with fail
    refine (follow_lo _ _ (by omega) (by omega)).mono ?_
    rintro e w1 ⟨rfl, rfl⟩
    go_wp2
    go_ret3
    exact ⟨0, 0, 3, H.out, rfl, rfl⟩
  · have hg : (b.toNat : Int) ≤ most := by omega
    have ht : tsm (b :: rest) most.toNat = (b.toNat, 1, 0) := by
      unfold tsm; simp only; rw [if_neg (by omega), if_pos hb, if_neg hmost]
    have H := Lib.hid ht
    clear ht
    go_enter Tryd.func78, Tryd.ntmps78
    go_wp2_with fail
    refine (follow_lo _ _ (by omega) (by omega)).mono ?_
    rintro e w1 ⟨rfl, rfl⟩
    go_wp2
    go_ret3
    exact ⟨b.toNat, 1, 0, H.out, rfl, rfl⟩

theorem small_more (A : Option Addr) (n c : Nat) (b : UInt8) (rest : List UInt8) (most : Int) (w : World) (hr : RdB w A n c (b :: rest)) (h0 : 0 ≤ most) (hb : 250 < b.toNat) :
    Calls Tryd.prog 78 #[.slice A n c, .int .u64 most] w (SmRet (b :: rest) most.toNat w) := by
  have hl := hr.len
  have hc := hr.cap
  have hm := hr.most
  unfold maxLen at hm
  have hn : 0 < n := by rw [← hl]; simp
  have hrl : rest.length + 1 = n := by rw [← hl]; simp
  obtain ⟨bk, off, y, rfl, c1, hy1, hy⟩ := hr.byte hn
  obtain rfl : b = y := by simpa using hy1
  rw [Nat.add_zero] at c1
  by_cases h5 : b.toNat = 255
  · have ht : tsm (b :: rest) most.toNat = (0, 0, 2) := by
      unfold tsm; simp only; rw [if_pos h5]
    have H := Lib.hid ht
    have e5 : ((b.toNat : Int) == 255) = true := by simp; omega
    clear ht hl hy1 hrl h5
    go_enter Tryd.func78, Tryd.ntmps78
    go_wp2
    go_ret3
    exact ⟨0, 0, 2, H.out, rfl, rfl⟩
  obtain ⟨d, hd⟩ : ∃ d : Nat, b.toNat = 250 + d := ⟨b.toNat - 250, by omega⟩
  have hd1 : 1 ≤ d := by omega
  have hd4 : d ≤ 4 := by omega
  have c2 : w.cell? ⟨bk, off, none⟩ = some (.int .u8 (250 + (d : Int))) := by rw [c1, hd]; simp
  have hmx : max (250 + (d : Int) - 250) 0 = d := by omega
  have hn5 : (250 + (d : Int) == 255) = false := by simp; omega
  have ht0 : ∀ m, tsm (b :: rest) m = if rest.length < d then (0, 0, 1) else if fol (num (rest.take d)) ≠ d then (0, 0, 2) else if m < num (rest.take d) then (0, 0, 3) else (num (rest.take d), 1 + d, 0) := by
    intro m
    unfold tsm; simp only
    rw [if_neg h5, if_neg (by omega), hd, Nat.add_sub_cancel_left]
  have ht := Lib.hid (ht0 most.toNat)
  clear ht0 c1 hd hy1 hl h5
  by_cases hs : rest.length < d
  · have hlt : (n : Int) < 1 + d := by omega
    clear hrl
    go_enter Tryd.func78, Tryd.ntmps78
    go_wp2
    go_ret3
    exact ⟨0, 0, 1, by rw [ht.out, if_pos hs], rfl, rfl⟩
  have hlt : 1 + (d : Int) ≤ (n : Int) := by omega
  have hrd : RdB w (some ⟨bk, off + 1, none⟩) d (c - 1) (rest.take d) := by
    have h1 := (hr.drop 1 (by omega)).take d (by omega)
    rw [if_neg (by omega)] at h1
    simpa [Addr.add] using h1
  have hN := num_lt (rest.take d)
  have hlen : (rest.take d).length = d := by rw [List.length_take]; omega
  have hN2 : num (rest.take d) < 4294967296 := by
    have h2 : (256 : Nat) ^ (rest.take d).length ≤ 256 ^ 4 := Nat.pow_le_pow_right (by omega) (by omega)
    omega
  have H1 := Lib.hid hrl
  have hn2 : 1 + d ≤ n := by omega
  have hs2 := Lib.hid hs
  clear hrl hN hlen hs
  generalize hx : num (rest.take d) = x at *
  by_cases hlo : x ≤ 250
  · have hne : ((0 : Int) != (d : Int)) = true := by simp; omega
    have HX := Lib.hid hx
    clear hx
    go_enter Tryd.func78, Tryd.ntmps78
    go_wp2_with fail
    refine (number_any _ _ _ _ _ hrd (by omega)).mono ?_
    rintro e w1 ⟨rfl, rfl⟩
    rw [HX.out]
    go_wp2_with fail
    refine (follow_lo _ _ (by omega) (by omega)).mono ?_
    rintro e w1 ⟨rfl, rfl⟩
    go_wp2
    go_ret3
    refine ⟨0, 0, 2, ?_, rfl, rfl⟩
    rw [ht.out, if_neg hs2.out, if_pos]
    unfold fol; rw [if_pos hlo]; omega
  · have HX := Lib.hid hx
    clear hx
    by_cases hwd : wid x = d
    · have hne : ((d : Int) != (d : Int)) = false := by simp
      have HW := Lib.hid hwd
      clear hwd
      by_cases hg : most < (x : Int)
      · go_enter Tryd.func78, Tryd.ntmps78
        go_wp2_with fail
        refine (number_any _ _ _ _ _ hrd (by omega)).mono ?_
        rintro e w1 ⟨rfl, rfl⟩
        rw [HX.out]
        go_wp2_with fail
        refine (follow_hi _ _ (by omega) (by omega)).mono ?_
        rintro e w1 ⟨rfl, rfl⟩
        rw [Int.toNat_natCast, HW.out]
        go_wp2
        go_ret3
        refine ⟨0, 0, 3, ?_, rfl, rfl⟩
        rw [ht.out, if_neg hs2.out, if_neg, if_pos (by omega)]
        unfold fol; rw [if_neg (by omega), HW.out]; simp
      · go_enter Tryd.func78, Tryd.ntmps78
        go_wp2_with fail
        refine (number_any _ _ _ _ _ hrd (by omega)).mono ?_
        rintro e w1 ⟨rfl, rfl⟩
        rw [HX.out]
        go_wp2_with fail
        refine (follow_hi _ _ (by omega) (by omega)).mono ?_
        rintro e w1 ⟨rfl, rfl⟩
        rw [Int.toNat_natCast, HW.out]
        go_wp2
        go_ret3
        refine ⟨x, 1 + d, 0, ?_, by simp, rfl⟩
        rw [ht.out, if_neg hs2.out, if_neg, if_neg (by omega)]
        unfold fol; rw [if_neg (by omega), HW.out]; simp
    · have hne : ((wid x : Int) != (d : Int)) = true := by simp; omega
      have hwp := wid_pos x
      go_enter Tryd.func78, Tryd.ntmps78
      go_wp2_with fail
      refine (number_any _ _ _ _ _ hrd (by omega)).mono ?_
      rintro e w1 ⟨rfl, rfl⟩
      rw [HX.out]
      go_wp2_with fail
      refine (follow_hi _ _ (by omega) (by omega)).mono ?_
      rintro e w1 ⟨rfl, rfl⟩
      rw [Int.toNat_natCast]
      go_wp2
      go_ret3
      refine ⟨0, 0, 2, ?_, rfl, rfl⟩
      rw [ht.out, if_neg hs2.out, if_pos]
      unfold fol; rw [if_neg (by omega)]; exact hwd

theorem small_any (A : Option Addr) (n c : Nat) (bs : List UInt8) (most : Int) (w : World) (hr : RdB w A n c bs) (h0 : 0 ≤ most) :
    Calls Tryd.prog 78 #[.slice A n c, .int .u64 most] w (SmRet bs most.toNat w) := by
  cases bs with
  | nil =>
    obtain rfl : 0 = n := hr.len
    exact small_none A c most w
  | cons b rest =>
    by_cases hb : b.toNat ≤ 250
    · exact small_lone A n c b rest most w hr h0 hb
    · exact small_more A n c b rest most w hr h0 (by omega)
end Go.Proofs.YtibcjbelcplpjaaDoor
