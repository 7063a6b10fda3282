/-
  Contracts of the reader's functions of layer 1 (bin), over this seat's program: what is left, numbers. No statement of the seed is proved here.
-/
import Derived.Test.YtibcjbelcplpjaaDoorBin2n
import Derived.Test.YtibcjbelcplpjaaDoorPd
import Derived.Deep.QuietTactic
import Derived.BigQuiet
import Derived.Laws.BitsAllLaws
namespace Go.Proofs.YtibcjbelcplpjaaDoor
open Go.RowKit
set_option linter.unusedVariables false

theorem or_byte (x : Nat) (y : UInt8) (h : x < 72057594037927936) : bits .or .u64 ((x : Int) * 256) (y.toNat : Int) = (x : Int) * 256 + (y.toNat : Int) := by
  have hy := y.toNat_lt
  have e : (x : Int) * 256 = ((x * 256 : Nat) : Int) := by omega
  rw [e, u64_or_nat _ _ (by omega) (by omega), nat_join 8 _ _ (by omega) (by omega)]
  omega

theorem number_any (A : Option Addr) (n c : Nat) (bs : List UInt8) (w : World) (hr : RdB w A n c bs) (hn : n ≤ 8) :
    Calls Tryd.prog 77 #[.slice A n c] w fun e w' => e = .returned (.int .u64 (num bs)) ∧ w = w' := by
  go_enter Tryd.func77, Tryd.ntmps77
  go_wp2
  go_loop [3, 7] (fun x i => ∃ k : Nat, k ≤ n ∧ i = .int .i64 k ∧ x = .int .u64 (num (bs.take k))) (fun _ i => n - (intOf i).toNat)
  case atStart => exact ⟨0, by omega, rfl, rfl⟩
  case round =>
    obtain ⟨k, hk, rfl, rfl⟩ := hrel
    by_cases hlt : k < n
    · have hx : num (bs.take k) < 72057594037927936 := by
        have hb := num_lt (bs.take k)
        have h2 : (256 : Nat) ^ (bs.take k).length ≤ 256 ^ 7 := Nat.pow_le_pow_right (by omega) (by rw [List.length_take]; omega)
        omega
      obtain ⟨b, off, y, rfl, c1, hy1, hy⟩ := hr.byte hlt
      have hts : num (bs.take (k + 1)) = num (bs.take k) * 256 + y.toNat := by
        rw [take_step _ _ _ hy1, num_snoc]
      have H := Lib.hid hts
      clear hts hy1
      generalize num (bs.take k) = x at *
      have hor := or_byte x y hx
      go_wp2
      go_round
      case rel => exact ⟨k + 1, by omega, by go_num, by rw [H.out]; congr 1⟩
      case measure => simp [intOf]; omega
    · have hl := hr.len
      have e : bs.take k = bs := List.take_of_length_le (by omega)
      have hk2 : k = n := by omega
      have H := Lib.hid e
      clear e hl hk2
      go_wp2
      go_ret
      exact ⟨ret_int (by rw [H.out]), rfl⟩

/-- At block r lies a reader of bs that has taken k bytes. -/
def Rea (w : World) (r : Nat) (bs : List UInt8) (k : Nat) : Prop :=
  ∃ A n c, w.heap[r]? = some (.cells #[.slice A n c, .int .i64 k] 100 (0, 0)) ∧ RdB w A n c bs ∧ k ≤ n ∧ ∀ a : Addr, A = some a → a.block < r
theorem off_of_lt {A : Option Addr} {r : Nat} (h : ∀ a : Addr, A = some a → a.block < r) : Off A [r] := fun a ha => by
  have := h a ha
  simp only [List.mem_singleton]
  omega
theorem Rea.lt {w : World} {r : Nat} {bs : List UInt8} {k : Nat} (h : Rea w r bs k) : r < w.heap.size := by
  obtain ⟨_, _, _, hp, _⟩ := h
  exact (Array.getElem?_eq_some_iff.1 hp).1
theorem Rea.le {w : World} {r : Nat} {bs : List UInt8} {k : Nat} (h : Rea w r bs k) : k ≤ bs.length := by
  obtain ⟨A, n, c, hp, hr, hk, hs⟩ := h
  have := hr.len
  omega
theorem Rea.kept0 {w w' : World} {r : Nat} {bs : List UInt8} {k : Nat} (h : Rea w r bs k) (hk : Kept [] w w') : Rea w' r bs k := by
  have hl := h.lt
  obtain ⟨A, n, c, hp, hr, hkn, ho⟩ := h
  exact ⟨A, n, c, (hk.block r hl (by simp)).trans hp, hr.kept0 hk, hkn, ho⟩
theorem Rea.keptS {w w' : World} {r : Nat} {bs : List UInt8} {k : Nat} {S : List Nat} (h : Rea w r bs k) (hk : Kept S w w') (hS : ∀ i, i ∈ S → r < i) : Rea w' r bs k := by
  have hl := h.lt
  obtain ⟨A, n, c, hp, hr, hkn, ho⟩ := h
  exact ⟨A, n, c, (hk.block r hl (fun hm => by have := hS r hm; omega)).trans hp, hr.kept hk (fun a ha hm => by have := ho a ha; have := hS _ hm; omega), hkn, ho⟩
theorem Rea.moved {w : World} {r : Nat} {bs : List UInt8} {k j : Nat} (h : Rea w r bs k) (hj : j ≤ bs.length) : Rea (w.setCell ⟨r, 1, none⟩ (.int .i64 j)) r bs j := by
  obtain ⟨A, n, c, hp, hr, hkn, ho⟩ := h
  have hl := hr.len
  refine ⟨A, n, c, ?_, hr.kept (S := [r]) ((Kept.refl _ _).setCell (by simp) _) (off_of_lt ho), by omega, ho⟩
  rw [heap_setCell_same w r 1 _ _ _ hp]
  rfl

/-- What is left: a slice into the reader's own text. -/
def LeftRet (r : Nat) (bs : List UInt8) (k : Nat) (w : World) (e : Ending) (w' : World) : Prop :=
  ∃ A n c m, e = .returned (.slice A n c) ∧ w' = w.drewN m ∧ RdB w A n c (bs.drop k) ∧ Off A [r]

theorem left_any (r : Nat) (bs : List UInt8) (k : Nat) (w : World) (hr : Rea w r bs k) : Calls Tryd.prog 65 #[.pointer (some ⟨r, 0, none⟩)] w (LeftRet r bs k w) := by
  obtain ⟨A, n, c, hp, hrd, hk, ho⟩ := hr
  have c0 : w.cell? ⟨r, 0, none⟩ = some (.slice A n c) := by rw [cell_of_row w r 0 _ _ _ hp]; rfl
  have c1 : w.cell? ⟨r, 1, none⟩ = some (.int .i64 k) := by rw [cell_of_row w r 1 _ _ _ hp]; rfl
  have hc := hrd.cap
  have hm := hrd.most
  unfold maxLen at hm
  go_enter Tryd.func65, Tryd.ntmps65
  go_wp2
  go_quiet (fail)
  go_wp2
  all_goals go_ret
  all_goals refine ⟨_, _, _, nq, rfl, rfl, ?_, ?_⟩
  all_goals have hd := hrd.drop k hk
  · have e : c = k := by assumption
    rw [if_pos e, e, Nat.sub_self] at hd
    exact hd
  · exact off_of_lt ho
  · have e : ¬ c = k := by assumption
    rw [if_neg e] at hd
    exact hd
  · exact off_add (off_of_lt ho) k

theorem rNew_any (A : Option Addr) (n c : Nat) (bs : List UInt8) (w : World) (hr : RdB w A n c bs) (hn : n ≤ 140737488355328) :
    Calls Tryd.prog 48 #[.slice A n c] w fun e w' => ∃ r, e = .returned (.pointer (some ⟨r, 0, none⟩)) ∧ Rea w' r bs 0 ∧ Kept [] w w' ∧ w.heap.size ≤ r := by
  go_enter Tryd.func48, Tryd.ntmps48
  go_wp2_with fail
  refine (clone_any A n c bs _ hr hn).mono ?_
  rintro e w1 ⟨v, rfl, ho, hk, hf⟩
  obtain ⟨A1, n1, c1, rfl, hrd, hbl⟩ := ho.form
  have hs := hk.size
  go_wp2
  go_ret
  refine ⟨_, rfl, ⟨A1, n1, c1, heap_alloc_new w1 _, hrd.alloc _, Nat.zero_le _, ?_⟩, hk.alloc _, hs⟩
  intro a ha
  subst ha
  exact hbl a.block rfl

theorem Kept.drewN0 {S : List Nat} (w : World) (n : Nat) : Kept S w (w.drewN n) := (Kept.refl S w).drewN n
theorem Rea.drewN {w : World} {r : Nat} {bs : List UInt8} {k : Nat} (h : Rea w r bs k) (n : Nat) : Rea (w.drewN n) r bs k := h.kept0 (Kept.drewN0 w n)
theorem Rea.kept {w w' : World} {r : Nat} {bs : List UInt8} {k : Nat} {S : List Nat} (h : Rea w r bs k) (hk : Kept S w w') (hS : ∀ i, i < w.heap.size → i ∉ S) : Rea w' r bs k := by
  refine h.kept0 ⟨hk.os, hk.tape, hk.output, hk.size, fun i hi _ => hk.block i hi (hS i hi)⟩

/-- What is left behind a take: the reader, so much further. -/
structure Took (r : Nat) (bs : List UInt8) (k d : Nat) (w w' : World) : Prop where
  rea : Rea w' r bs (k + d)
  kept : Kept [r] w w'

theorem took_none {r : Nat} {bs : List UInt8} {k : Nat} {w : World} (h : Rea w r bs k) (m : Nat) : Took r bs k 0 w (w.drewN m) := ⟨h.drewN m, Kept.drewN0 w m⟩
theorem took_some {r : Nat} {bs : List UInt8} {k d : Nat} {w : World} (h : Rea w r bs k) (m : Nat) (hd : k + d ≤ bs.length) : Took r bs k d w ((w.drewN m).setCell ⟨r, 1, none⟩ (.int .i64 ((k : Int) + (d : Int)))) := by
  have h1 := (h.drewN m).moved hd
  rw [Int.natCast_add] at h1
  exact ⟨h1, (Kept.drewN0 w m).setCell (by simp) _⟩

def NumRet (r : Nat) (bs : List UInt8) (k : Nat) (n : Int) (w : World) (e : Ending) (w' : World) : Prop :=
  ∃ x d er : Nat, tnum (bs.drop k) n = (x, d, er) ∧ e = .returned (.tuple #[.int .u64 x, .int .i64 er]) ∧ Took r bs k d w w'

theorem Rea.cells {w : World} {r : Nat} {bs : List UInt8} {k : Nat} (h : Rea w r bs k) : w.cell? ⟨r, 1, none⟩ = some (.int .i64 k) ∧ w.frozen? ⟨r, 1, none⟩ = false ∧ bs.length ≤ 9223372036854775807 := by
  obtain ⟨A, n, c, hp, hrd, hk, ho⟩ := h
  have h1 := hrd.cap
  have h2 := hrd.most
  have h3 := hrd.len
  unfold maxLen at h2
  exact ⟨by rw [cell_of_row w r 1 _ _ _ hp]; rfl, frozen_of_row w r 1 _ _ hp, by omega⟩

theorem rNum_any (r : Nat) (bs : List UInt8) (k : Nat) (n : Int) (w : World) (hr : Rea w r bs k) : Calls Tryd.prog 63 #[.pointer (some ⟨r, 0, none⟩), .int .i64 n] w (NumRet r bs k n w) := by
  obtain ⟨c1, f1, hbl⟩ := hr.cells
  have hkl := hr.le
  by_cases hn : n < 1 ∨ 8 < n
  · have ht : tnum (bs.drop k) n = (0, 0, 14) := by unfold tnum; rw [if_pos hn]
    have H := Lib.hid ht
    clear ht
    go_enter Tryd.func63, Tryd.ntmps63
    go_wp2_with (go_at_call 55; refine (widthRight_no _ _ hn).mono ?_; rintro e w' ⟨rfl, rfl⟩)
    go_ret2
    exact ⟨0, 0, 14, H.out, rfl, took_none hr 0⟩
  · obtain ⟨m, rfl⟩ := Int.eq_ofNat_of_zero_le (show 0 ≤ n by omega)
    by_cases hs : (bs.drop k).length < m
    · have ht : tnum (bs.drop k) m = (0, 0, 1) := by unfold tnum; rw [if_neg hn, if_pos (by simpa using hs)]
      have H := Lib.hid ht
      clear ht
      go_enter Tryd.func63, Tryd.ntmps63
      go_wp2_with fail
      refine (widthRight_yes _ _ (by omega) (by omega)).mono ?_
      rintro e w' ⟨rfl, rfl⟩
      go_wp2_with fail
      refine (left_any r bs k _ hr).mono ?_
      rintro e w' ⟨A, nl, c, d, rfl, rfl, hrd, hoff⟩
      have hl := hrd.len
      have hlt : (nl : Int) < (m : Int) := by omega
      clear hl
      go_wp2
      go_ret2
      exact ⟨0, 0, 1, H.out, rfl, took_none hr d⟩
    · have ht : tnum (bs.drop k) m = (num ((bs.drop k).take m), m, 0) := by unfold tnum; rw [if_neg hn, if_neg (by simpa using hs)]; simp
      have H := Lib.hid ht
      clear ht
      have hl2 : bs.length - k = (bs.drop k).length := by simp
      have hsum : k + m ≤ bs.length := by omega
      clear hl2
      go_enter Tryd.func63, Tryd.ntmps63
      go_wp2_with fail
      refine (widthRight_yes _ _ (by omega) (by omega)).mono ?_
      rintro e w' ⟨rfl, rfl⟩
      go_wp2_with fail
      refine (left_any r bs k _ hr).mono ?_
      rintro e w' ⟨A, nl, c, d, rfl, rfl, hrd, hoff⟩
      have hl := hrd.len
      have hlt : (m : Int) ≤ (nl : Int) := by omega
      have hcc := hrd.cap
      clear hl
      go_wp2_with fail
      have hT := took_some hr d hsum
      refine (number_any A m c ((bs.drop k).take m) _ ((hrd.take m (by omega)).kept hT.kept hoff) (by omega)).mono ?_
      rintro e w' ⟨rfl, rfl⟩
      go_wp2
      go_ret2
      exact ⟨_, _, _, H.out, rfl, hT⟩

end Go.Proofs.YtibcjbelcplpjaaDoor
