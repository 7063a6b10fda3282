/-
  Contracts of layer 4 (hkdf): what is expanded. No statement of the seed is proved here.
-/
import Derived.Test.YtckffideobjlfaaDoorHk2
import Derived.StillTailTactics
namespace Go.Proofs.YtckffideobjlfaaDoor
open Go.RowKit
set_option linter.unusedVariables false

theorem OwB.blk {e : TypeId} {w : World} {g n : Nat} {bs : List UInt8} (h : OwB e w (.slice (some ⟨g, 0, none⟩) n n) bs) : Blk w g e (bvs bs) := by
  have hl := h.rd.len
  unfold OwB at h
  rcases h.2 with ⟨e1, _⟩ | ⟨g', cap, cur, e1, _, hg, _, _, hcs, ht⟩
  · cases e1
  · injection e1 with e1 e2 e3
    injection e1 with e1; injection e1 with e1
    subst e1 e3
    have : cur = (bvs bs).toArray := by
      rw [← ht, List.take_of_length_le (by simp; omega)]
    subst this
    exact hg
theorem Blk.own {e : TypeId} {w : World} {g n : Nat} {bs : List UInt8} (h : Blk w g e (bvs bs)) (hl : bs.length = n) (hn : n ≤ maxLen) : OwB e w (.slice (some ⟨g, 0, none⟩) n n) bs := by
  subst hl
  exact ⟨by rw [bvs_length, Nat.mul_one], .inr ⟨g, _, _, rfl, Nat.zero_le _, h, Nat.le_refl _, hn, by simp [bvs], by rw [Nat.mul_one, List.take_of_length_le (by simp [bvs])]⟩⟩
/-- x[k:] of a whole row. -/
theorem run_cut_last {P : Program} (t e : TypeId) (ht : P.underlying t = some (.slice e)) (hs : (P.info? e).map (·.size) = some 1) (g n k : Nat) (z : Int) (hz : z = (k : Int)) (hk : k < n) (W : World) :
    (Instr.slice t (.slice (some ⟨g, 0, none⟩) n n) (some (.int .i64 z)) none none).run P W = .ok (.slice (some ⟨g, k, none⟩) (n - k) (n - k)) W := by
  subst hz
  have he : P.elem t = e := by simp [Program.elem, ht]
  rw [run_slice_l (P := P) W t _ n n (by rw [he]; exact ht) .i64 (k : Int) (by omega) (by omega), size_of_elem t e ht hs W]
  simp [sliced, Result.andThen, Addr.add_mid, show n ≠ k by omega]

/-- Bytes, and an error. -/
def ExpRet (bs : List UInt8) (er : Nat) (w : World) (e : Ending) (w' : World) : Prop :=
  ∃ A n c, e = .returned (.tuple #[.slice A n c, .int .i64 er]) ∧ RdB w' A n c bs ∧ Kept [] w w'

theorem hkEF_no (key : List UInt8) (A' : Option Addr) (n' c' : Nat) (n : Int) (w : World) (hn : n < 0 ∨ 8160 < n) :
    Calls Tryd.prog 9 #[.agg (bvs key).toArray, .slice A' n' c', .int .i64 n] w (ExpRet [] 14 w) := by
  have hK1 : Kept [] w (w.alloc (.cells (bvs key).toArray 25)) := (Kept.refl [] w).alloc _
  rcases hn with h | h
  · go_enter Tryd.func9, Tryd.ntmps9
    go_wp2_with (with_reducible change wpList _ _ _ (⟨_, Op.box _ _, _, _, _, _⟩ :: _) _ _; refine Great.wpList_boxTo rfl 25 _ rfl _ rfl w.heap.size rfl (bvs key).toArray rfl ?_; generalize w.alloc (.cells (bvs key).toArray 25) = w1 at *)
    go_ret2
    exact ⟨none, 0, 0, rfl, RdB.nil _, hK1⟩
  · go_enter Tryd.func9, Tryd.ntmps9
    go_wp2_with (with_reducible change wpList _ _ _ (⟨_, Op.box _ _, _, _, _, _⟩ :: _) _ _; refine Great.wpList_boxTo rfl 25 _ rfl _ rfl w.heap.size rfl (bvs key).toArray rfl ?_; generalize w.alloc (.cells (bvs key).toArray 25) = w1 at *)
    go_ret2
    exact ⟨none, 0, 0, rfl, RdB.nil _, hK1⟩

set_option maxRecDepth 100000 in
set_option maxHeartbeats 4000000 in
theorem hkEF_any (key info : List UInt8) (A' : Option Addr) (n' c' n : Nat) (w : World) (hkl : key.length = 32) (hi : RdB w A' n' c' info) (hgl : Glob w) (hn : n ≤ 8160) (hn' : n' ≤ 100000) :
    Calls Tryd.prog 9 #[.agg (bvs key).toArray, .slice A' n' c', .int .i64 n] w (ExpRet (hkE key info n) 0 w) := by
  obtain ⟨i0, hi0, hz0, hz1, hz2⟩ := info_parts u8info
  have hB := Blk.new w 25 (bvs key)
  have hK1 : Kept [] w (w.alloc (.cells (bvs key).toArray 25)) := (Kept.refl [] w).alloc _
  have hs1 : (w.alloc (.cells (bvs key).toArray 25)).heap.size = w.heap.size + 1 := by simp
  have Hkl := Lib.hid hkl
  go_enter Tryd.func9, Tryd.ntmps9
  go_wp2_with (first
    | (with_reducible change wpList _ _ _ (⟨_, Op.box _ _, _, _, _, _⟩ :: _) _ _; refine Great.wpList_boxTo rfl 25 _ rfl _ rfl w.heap.size rfl (bvs key).toArray rfl ?_; generalize w.alloc (.cells (bvs key).toArray 25) = w1 at *)
    | (with_reducible change wpList _ _ _ (⟨_, Op.makeSlice _ _ _, _, _, _, _⟩ :: _) _ _; refine wpList_make_bytes rfl _ _ 22 rfl 5 i0 Tryd.underlying22 hi0 hz0 hz1 hz2 _ _ _ _ n rfl rfl rfl rfl (by omega) ?_))
  intro w2 hown2 hk2
  have hB2 := hB.kept0 hk2
  have hK2 := hK1.andThen hk2
  obtain ⟨g3, hg3⟩ : ∃ g, g = w.heap.size := ⟨_, rfl⟩
  obtain ⟨g8, hg8⟩ : ∃ g, g = w.heap.size + 1 := ⟨_, rfl⟩
  rw [← hg8] at hown2 ⊢
  rw [← hg3] at hB2 ⊢
  have hw8 : w.heap.size ≤ g8 := by omega
  have h38 : g3 ≠ g8 := by omega
  have hO2 := hown2.blk
  rw [← hkP_zero key info n] at hO2
  clear hB hK1 hs1 hk2 hkl hg3 hg8 hown2
  obtain ⟨m, hm⟩ : ∃ m, m = (n + 31) / 32 := ⟨_, rfl⟩
  have hq : ((n : Int) + 32 - 1) / 32 = (m : Int) := by omega
  have hm1 : n ≤ 32 * m := by omega
  have hm2 : m ≤ 255 := by omega
  have hm3 : ∀ k, k < m → 32 * k < n := by intro k hk; omega
  have Hm3 := Lib.hid hm3
  clear hm3 hm
  go_wp2
  rw [hq]
  clear hq
  go_loopw [9, 24] (fun v i wr => ∃ (k : Nat) (A9 : Option Addr) (n9 c9 : Nat), k ≤ m ∧ i = .int .i64 k ∧ v = .slice A9 n9 c9 ∧ RdB wr A9 n9 c9 (hkT key info k) ∧ Hid (Off A9 [g8]) ∧ Blk wr g3 25 (bvs key) ∧ Blk wr g8 5 (bvs (hkP key info n k)) ∧ Kept [] w wr) (fun _ i _ => m - (intOf i).toNat)
  case atStart => exact ⟨0, none, 0, 0, by omega, rfl, rfl, by rw [hkT_zero]; exact RdB.nil _, Lib.hid (by intro a ha; cases ha), hB2, hO2, hK2⟩
  case round =>
    obtain ⟨k, A9, n9, c9, hk, rfl, rfl, hr9, Ho9, hB9, hO9, hK9⟩ := hrel
    clear hB2 hO2 hK2
    by_cases hlt : k < m
    · have h32 := Hm3.out k hlt
      have hl9 : n9 ≤ 1000 := by have := hr9.len; have := hkT_le key info k; omega
      go_wp2_with (with_reducible change wpList _ _ _ (⟨_, Op.load _ _, _, _, _, _⟩ :: _) _ _; refine wpList_load_blk rfl 25 (.tmp 3) rfl g3 rfl 25 _ _ hB9 arr32b rfl (size_of_len size32 Hkl.out) ?_)
      go_wp2_with fail
      refine (hkN_any key A9 A' n9 c9 n' c' (hkT key info k) info (k + 1) _ _ Hkl.out hr9 (hi.kept0 hK9) (hgl.kept0 hK9) (by omega) (by omega) hl9 hn').mono ?_
      rw [← hkT_succ]
      rintro e w4 ⟨rfl, hk4⟩
      have hB4 := hB9.kept0 hk4
      have hO4 := hO9.kept0 hk4
      have hK4 := hK9.andThen hk4
      have ht := hkT_length key info k
      clear hB9 hO9 hK9 hk4 hr9 Ho9 hl9
      go_wp2_with (with_reducible change wpList _ _ _ (⟨_, Op.alloc _, _, _, _, _⟩ :: _) _ _; refine wpList_alloc_blk rfl 25 rfl _ zero32 ?_)
      intro w5 hR5 hk5 hs5
      obtain ⟨g11, hg11⟩ : ∃ g, g = w4.heap.size := ⟨_, rfl⟩
      rw [← hg11] at hR5 ⊢
      have h311 : g3 ≠ g11 := by have := hB4.lt; omega
      have h811 : g8 ≠ g11 := by have := hO4.lt; omega
      have hw11 : w.heap.size ≤ g11 := by have := hK4.size; omega
      clear hs5 hg11
      go_wp2_with (with_reducible change wpList _ _ _ (⟨_, Op.store _ _ _, _, _, _, _⟩ :: _) _ _; refine wpList_store_blk rfl 25 (.tmp 11) (.tmp 32) rfl g11 (bvs (hkT key info (k + 1))) rfl rfl 25 (zb 32) hR5 (size_of_len size32 ht) (zb_len ht) (bvs_one _) ?_)
      intro w6 hR6 hk6 hs6
      have hB6 := ((hB4.kept0 hk5).kept hk6 (by simpa using h311)).drew
      have hO6 := ((hO4.kept0 hk5).kept hk6 (by simpa using h811)).drew
      have hK6 : Kept [] w w6.drew := ((hK4.andThen hk5).trans hk6 (by simp; omega)).drew
      have hR7 := hR6.drew
      clear hB4 hO4 hK4 hR5 hk5 hk6 hs6 hR6
      obtain ⟨a, ha⟩ : ∃ a, a = 32 * k := ⟨_, rfl⟩
      have han : a < n := by omega
      have hmul : IntKind.i64.wrap ((k : Int) * 32) = (a : Int) := by rw [IntWalk.i64_in _ (by omega)]; omega
      have hcut8 := fun W => run_cut_last (P := Tryd.prog) 22 5 Tryd.underlying22 size1b g8 n a (a : Int) rfl han W
      have hcutK := fun g => run_cut_all (P := Tryd.prog) 25 5 32 g 0 arr32b size1b (by omega)
      have HS := Lib.hid (hkP_step (key := key) (info := info) (n := n) (k := k) (m := min 32 (n - a)) (by omega) (by rw [ha]))
      have HL := Lib.hid (hkP_length key info n k)
      have Ha := Lib.hid ha
      have Ht := Lib.hid ht
      clear ha ht
      go_wp2
      go_still_tail 5, (by kernel_rfl)
      change wpList _ _ _ _ _ w6.drew
      generalize w6.drew = w7 at *
      go_wp2_with (with_reducible change wpList _ _ _ (⟨_, Op.call _, _, _, _, _⟩ :: _) _ _; refine wpList_copy_blk rfl (.tmp 36) (.tmp 37) 22 rfl 5 Tryd.underlying22 size1b g8 a (n - a) (n - a) (some ⟨g11, 0, none⟩) 32 32 (hkT key info (k + 1)) rfl rfl (hR7.all 32 Ht.out (by omega)) (by omega) 5 _ hO6 (min 32 (n - a)) rfl (by rw [bvs_length, HL.out]; omega) ?_)
      intro w8 hO8 hk8
      have hO9 : Blk w8 g8 5 (bvs (hkP key info n (k + 1))) := by
        rw [← HS.out]
        refine hO8.of_eq ?_
        have h1 := Ht.out
        unfold splice
        rw [bvs_append, bvs_append, bvs_length, List.length_take, h1, show min (min 32 (n - a)) 32 = min 32 (n - a) by omega, Ha.out]
        simp [bvs, List.map_take, List.map_drop]
      have hB9 := hB6.kept hk8 (by simpa using h38)
      have hR9 := (hR7.kept hk8 (by simpa using fun h => h811 h.symm)).all 32 Ht.out (by omega)
      have hK9 : Kept [] w w8 := hK6.trans hk8 (by simp; omega)
      have Ho9 : Hid (Off (some ⟨g11, 0, none⟩) [g8]) := Lib.hid (by intro a ha; injection ha with ha; subst ha; simpa using fun h => h811 h.symm)
      clear hO8 hk8 HS HL Ha hmul hcut8 hR7 hB6 hO6 hK6
      go_wp2
      go_roundw
      case rel =>
        exact ⟨k + 1, _, 32, 32, by omega, by go_num, rfl, hR9, Ho9, hB9, hO9, hK9⟩
      case measure => simp [intOf]; omega
    · obtain rfl : m = k := by omega
      rw [hkP_end hm1 hm2] at hO9
      have hrd := (hO9.own (hkE_length hn) (by simp only [maxLen]; omega)).rd
      clear hO9 hB9 hr9 Ho9
      go_wp2
      go_ret2
      exact ⟨_, n, n, rfl, hrd, hK9⟩
end Go.Proofs.YtckffideobjlfaaDoor
