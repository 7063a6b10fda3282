/-
  Contracts of the reader's functions of layer 1 (bin) that the document lists, over this seat's program. No statement of the seed is proved here.
-/
import Derived.Test.YtfkhlnhnanimkaaRd1
namespace Go.Proofs.Ytfkhlnhnanimkaa
open Go.RowKit
set_option linter.unusedVariables false

theorem Kept.drewN0 {S : List Nat} (w : World) (n : Nat) : Kept S w (w.drewN n) := (Kept.refl S w).drewN n
theorem Rea.drewN {w : World} {r : Nat} {bs : List UInt8} {k : Nat} (h : Rea w r bs k) (n : Nat) : Rea (w.drewN n) r bs k := h.kept0 (Kept.drewN0 w n)
theorem Rea.kept {w w' : World} {r : Nat} {bs : List UInt8} {k : Nat} {S : List Nat} (h : Rea w r bs k) (hk : Kept S w w') (hS : ∀ i, i < w.heap.size → i ∉ S) : Rea w' r bs k := by
  refine h.kept0 ⟨hk.os, hk.tape, hk.output, hk.size, fun i hi _ => hk.block i hi (hS i hi)⟩

/-- What is left behind a take: the reader, so much further. -/
structure Took (r : Nat) (bs : List UInt8) (k d : Nat) (w w' : World) : Prop where
  rea : Rea w' r bs (k + d)
  kept : Kept [r] w w'

theorem took_none {r : Nat} {bs : List UInt8} {k : Nat} {w : World} (h : Rea w r bs k) (m : Nat) : Took r bs k 0 w (w.drewN m) := ⟨h.drewN m, Kept.drewN0 w m⟩
theorem took_some {r : Nat} {bs : List UInt8} {k d : Nat} {w : World} (h : Rea w r bs k) (m : Nat) (hd : k + d ≤ bs.length) : Took r bs k d w ((w.drewN m).setCell ⟨r, 1, none⟩ (.int .i64 ((k : Int) + (d : Int)))) := by
  have h1 := (h.drewN m).moved hd
  rw [Int.natCast_add] at h1
  exact ⟨h1, (Kept.drewN0 w m).setCell (by simp) _⟩

def NumRet (r : Nat) (bs : List UInt8) (k : Nat) (n : Int) (w : World) (e : Ending) (w' : World) : Prop :=
  ∃ x d er : Nat, tnum (bs.drop k) n = (x, d, er) ∧ e = .returned (.tuple #[.int .u64 x, .int .i64 er]) ∧ Took r bs k d w w'

theorem Rea.cells {w : World} {r : Nat} {bs : List UInt8} {k : Nat} (h : Rea w r bs k) : w.cell? ⟨r, 1, none⟩ = some (.int .i64 k) ∧ w.frozen? ⟨r, 1, none⟩ = false ∧ bs.length ≤ 9223372036854775807 := by
  obtain ⟨A, n, c, hp, hrd, hk, ho⟩ := h
  have h1 := hrd.cap
  have h2 := hrd.most
  have h3 := hrd.len
  unfold maxLen at h2
  exact ⟨by rw [cell_of_row w r 1 _ _ _ hp]; rfl, frozen_of_row w r 1 _ _ hp, by omega⟩

theorem rNum_any (r : Nat) (bs : List UInt8) (k : Nat) (n : Int) (w : World) (hr : Rea w r bs k) : Calls Try.prog 20 #[.pointer (some ⟨r, 0, none⟩), .int .i64 n] w (NumRet r bs k n w) := by
  obtain ⟨c1, f1, hbl⟩ := hr.cells
  have hkl := hr.le
  by_cases hn : n < 1 ∨ 8 < n
  · have ht : tnum (bs.drop k) n = (0, 0, 14) := by unfold tnum; rw [if_pos hn]
    have H := Lib.hid ht
    clear ht
    go_enter Try.func20, Try.ntmps20
    go_wp2_with (go_at_call 29; refine (widthRight_no _ _ hn).mono ?_; rintro e w' ⟨rfl, rfl⟩)
    go_ret2
    exact ⟨0, 0, 14, H.out, rfl, took_none hr 0⟩
  · obtain ⟨m, rfl⟩ := Int.eq_ofNat_of_zero_le (show 0 ≤ n by omega)
    by_cases hs : (bs.drop k).length < m
    · have ht : tnum (bs.drop k) m = (0, 0, 1) := by unfold tnum; rw [if_neg hn, if_pos (by simpa using hs)]
      have H := Lib.hid ht
      clear ht
      go_enter Try.func20, Try.ntmps20
      go_wp2_with fail
      refine (widthRight_yes _ _ (by omega) (by omega)).mono ?_
      rintro e w' ⟨rfl, rfl⟩
      go_wp2_with fail
      refine (left_any r bs k _ hr).mono ?_
      rintro e w' ⟨A, nl, c, d, rfl, rfl, hrd, hoff⟩
      have hl := hrd.len
      have hlt : (nl : Int) < (m : Int) := by omega
      clear hl
      go_wp2
      go_ret2
      exact ⟨0, 0, 1, H.out, rfl, took_none hr d⟩
    · have ht : tnum (bs.drop k) m = (num ((bs.drop k).take m), m, 0) := by unfold tnum; rw [if_neg hn, if_neg (by simpa using hs)]; simp
      have H := Lib.hid ht
      clear ht
      have hl2 : bs.length - k = (bs.drop k).length := by simp
      have hsum : k + m ≤ bs.length := by omega
      clear hl2
      go_enter Try.func20, Try.ntmps20
      go_wp2_with fail
      refine (widthRight_yes _ _ (by omega) (by omega)).mono ?_
      rintro e w' ⟨rfl, rfl⟩
      go_wp2_with fail
      refine (left_any r bs k _ hr).mono ?_
      rintro e w' ⟨A, nl, c, d, rfl, rfl, hrd, hoff⟩
      have hl := hrd.len
      have hlt : (m : Int) ≤ (nl : Int) := by omega
      have hcc := hrd.cap
      clear hl
      go_wp2_with fail
      have hT := took_some hr d hsum
      refine (number_any A m c ((bs.drop k).take m) _ ((hrd.take m (by omega)).kept hT.kept hoff) (by omega)).mono ?_
      rintro e w' ⟨rfl, rfl⟩
      go_wp2
      go_ret2
      exact ⟨_, _, _, H.out, rfl, hT⟩

theorem tsm_facts {bs : List UInt8} {most x s er : Nat} (h : tsm bs most = (x, s, er)) : x < 4294967296 ∧ s ≤ bs.length ∧ s ≤ 5 ∧ er ≤ 3 ∧ (er ≠ 0 → x = 0 ∧ s = 0) := by
  have hle := tsm_le bs most
  rw [h] at hle
  obtain ⟨h1, h2, h3, h4, h5⟩ := hle
  refine ⟨h1, h2, h3, h4, fun he => ?_⟩
  have := h5 he
  simp only [Prod.mk.injEq] at this
  exact ⟨this.1, this.2.1⟩

def SmallRet (r : Nat) (bs : List UInt8) (k : Nat) (most : Nat) (w : World) (e : Ending) (w' : World) : Prop :=
  ∃ x d er : Nat, tsm (bs.drop k) most = (x, d, er) ∧ e = .returned (.tuple #[.int .u64 x, .int .i64 er]) ∧ Took r bs k d w w'

theorem rSmall_any (r : Nat) (bs : List UInt8) (k : Nat) (most : Int) (w : World) (hr : Rea w r bs k) (h0 : 0 ≤ most) : Calls Try.prog 22 #[.pointer (some ⟨r, 0, none⟩), .int .u64 most] w (SmallRet r bs k most.toNat w) := by
  obtain ⟨c1, f1, hbl⟩ := hr.cells
  have hkl := hr.le
  go_enter Try.func22, Try.ntmps22
  go_wp2_with fail
  refine (left_any r bs k _ hr).mono ?_
  rintro e w' ⟨A, nl, c, d, rfl, rfl, hrd, hoff⟩
  go_wp2_with fail
  refine (small_any A nl c (bs.drop k) most _ (hrd.drewN d) h0).mono ?_
  rintro e w1 ⟨x, s, er, ht, rfl, rfl⟩
  obtain ⟨hx, hs, hs5, he3, hz⟩ := tsm_facts ht
  rw [List.length_drop] at hs
  have H := Lib.hid ht
  clear ht
  by_cases her : er = 0
  · subst her
    have hT := took_some (d := s) hr d (by omega)
    have hlast : k + s ≤ bs.length := by omega
    go_wp2
    go_ret2
    exact ⟨x, s, 0, H.out, rfl, hT⟩
  · obtain ⟨rfl, rfl⟩ := hz her
    have hne : ((er : Int) != 0) = true := by simp; omega
    clear hz
    go_wp2
    go_ret2
    exact ⟨0, 0, er, H.out, rfl, took_none hr d⟩

/-- A text that was taken: new memory. -/
def TextRet (r : Nat) (bs : List UInt8) (k : Nat) (most : Int) (w : World) (e : Ending) (w' : World) : Prop :=
  ∃ (t : List UInt8) (v : Value) (d er : Nat), ttext (bs.drop k) most = (t, d, er) ∧ e = .returned (.tuple #[v, .int .i64 er]) ∧ Took r bs k d w w' ∧ OwB 5 w' v t ∧ ∀ g, v.ownBlock = some g → w.heap.size ≤ g

theorem rText_any (r : Nat) (bs : List UInt8) (k : Nat) (most : Int) (w : World) (hr : Rea w r bs k) (hm1 : -9223372036854775808 ≤ most) (hm2 : most ≤ 9223372036854775807) :
    Calls Try.prog 24 #[.pointer (some ⟨r, 0, none⟩), .int .i64 most] w (TextRet r bs k most w) := by
  obtain ⟨c1, f1, hbl⟩ := hr.cells
  have hkl := hr.le
  have hmx : 0 ≤ max most 0 := by omega
  have hmx2 : max most 0 ≤ 9223372036854775807 := by omega
  go_enter Try.func24, Try.ntmps24
  go_wp2_with fail
  refine (left_any r bs k _ hr).mono ?_
  rintro e w' ⟨A, nl, c, d, rfl, rfl, hrd, hoff⟩
  go_wp2_with fail
  refine (small_any A nl c (bs.drop k) (max most 0) _ (hrd.drewN d) hmx).mono ?_
  rintro e w1 ⟨x, s, er, ht, rfl, rfl⟩
  obtain ⟨hx, hs, hs5, he3, hz⟩ := tsm_facts ht
  have htt : ttext (bs.drop k) most = if er ≠ 0 then ([], 0, er) else if (bs.drop k).length - s < x then ([], 0, 1) else (((bs.drop k).drop s).take x, s + x, 0) := by
    unfold ttext; rw [ht]
  rw [List.length_drop] at hs htt
  have H := Lib.hid htt
  have hl := hrd.len
  rw [List.length_drop] at hl
  clear ht htt
  by_cases her : er = 0
  · subst her
    by_cases hsh : bs.length - k - s < x
    · have hg : (nl : Int) - (s : Int) < (x : Int) := by omega
      have hnl : s ≤ nl := by omega
      have hcm := hrd.most
      have hcc := hrd.cap
      unfold maxLen at hcm
      clear hz hl
      go_wp2
      go_ret2
      exact ⟨[], _, 0, 1, by rw [H.out, if_neg (by simp), if_pos hsh], rfl, took_none hr d, OwB.nil _ _, by simp [Value.ownBlock]⟩
    · have hg : (x : Int) ≤ (nl : Int) - (s : Int) := by omega
      have hnl : s + x ≤ nl := by omega
      have hcm := hrd.most
      have hcc := hrd.cap
      unfold maxLen at hcm
      have hT := took_some (d := s + x) hr d (by omega)
      have hlast : k + (s + x) ≤ bs.length := by omega
      clear hz hl
      rw [Int.natCast_add] at hT
      have hcut := (hrd.drop s (by omega)).take x (by omega)
      by_cases hcs : c = s
      · rw [if_pos hcs, hcs, Nat.sub_self] at hcut
        have HC := Lib.hid hcs
        have hx0 : x = 0 := by omega
        subst hx0
        obtain rfl : nl = s := by omega
        clear hcs
        obtain rfl : c = nl := HC.out
        go_wp2_with fail
        refine (clone_any _ _ _ _ _ (hcut.kept hT.kept hoff) (by omega)).mono ?_
        rintro e w2 ⟨v, rfl, ho, hk2, hf⟩
        go_wp2
        go_ret2
        refine ⟨_, v, _, 0, by rw [H.out, if_neg (by simp), if_neg hsh], rfl, ⟨hT.rea.kept0 hk2, hT.kept.andThen hk2⟩, ho, fun g hg => ?_⟩
        have := hf g hg
        have := hT.kept.size
        omega
      · rw [if_neg hcs] at hcut
        go_wp2_with fail
        refine (clone_any _ _ _ _ _ (hcut.kept hT.kept (off_add hoff s)) (by omega)).mono ?_
        rintro e w2 ⟨v, rfl, ho, hk2, hf⟩
        go_wp2
        go_ret2
        refine ⟨_, v, _, 0, by rw [H.out, if_neg (by simp), if_neg hsh], rfl, ⟨hT.rea.kept0 hk2, hT.kept.andThen hk2⟩, ho, fun g hg => ?_⟩
        have := hf g hg
        have := hT.kept.size
        omega
  · obtain ⟨rfl, rfl⟩ := hz her
    have hne : ((er : Int) != 0) = true := by simp; omega
    clear hz hl
    go_wp2
    go_ret2
    exact ⟨[], _, 0, er, by rw [H.out, if_pos her], rfl, took_none hr d, OwB.nil _ _, by simp [Value.ownBlock]⟩

theorem rAt_any (r : Nat) (bs : List UInt8) (k : Nat) (w : World) (hr : Rea w r bs k) : Calls Try.prog 26 #[.pointer (some ⟨r, 0, none⟩)] w fun e w' => e = .returned (.int .i64 k) ∧ w = w' := by
  obtain ⟨c1, f1, hbl⟩ := hr.cells
  go_enter Try.func26, Try.ntmps26
  go_wp2
  go_ret
  exact ⟨rfl, rfl⟩
theorem rEnd_yes (r : Nat) (bs : List UInt8) (w : World) (hr : Rea w r bs bs.length) : Calls Try.prog 27 #[.pointer (some ⟨r, 0, none⟩)] w fun e w' => e = .returned (.int .i64 0) ∧ Kept [] w w' := by
  go_enter Try.func27, Try.ntmps27
  go_wp2_with fail
  refine (left_any r bs _ _ hr).mono ?_
  rintro e w' ⟨A, nl, c, d, rfl, rfl, hrd, hoff⟩
  obtain rfl : 0 = nl := by have := hrd.len; rw [List.length_drop] at this; omega
  go_wp2
  go_ret
  exact ⟨rfl, Kept.drewN0 w d⟩
theorem rEnd_no (r : Nat) (bs : List UInt8) (k : Nat) (w : World) (hr : Rea w r bs k) (hk : k < bs.length) : Calls Try.prog 27 #[.pointer (some ⟨r, 0, none⟩)] w fun e w' => e = .returned (.int .i64 2) ∧ Kept [] w w' := by
  go_enter Try.func27, Try.ntmps27
  go_wp2_with fail
  refine (left_any r bs _ _ hr).mono ?_
  rintro e w' ⟨A, nl, c, d, rfl, rfl, hrd, hoff⟩
  have hn : 0 < nl := by have := hrd.len; rw [List.length_drop] at this; omega
  go_wp2
  go_ret
  exact ⟨rfl, Kept.drewN0 w d⟩
end Go.Proofs.Ytfkhlnhnanimkaa
