/-
  Contracts of the document's own answers of layer 1: what is taken. No statement of the seed is proved here.
-/
import Derived.Test.YtfkhlnhnanimkaaRd2
import Derived.Test.YtfkhlnhnanimkaaRef1b
namespace Go.Proofs.Ytfkhlnhnanimkaa
open Go.RowKit
set_option linter.unusedVariables false

theorem rfNumber_any (A : Option Addr) (n c : Nat) (bs : List UInt8) (a m : Nat) (w : World) (hr : RdB w A n c bs) (hm : m ≤ 8) (ha : a + m ≤ n) (hn : n ≤ 1000000) :
    Calls Try.prog 37 #[.slice A n c, .int .i64 a, .int .i64 m] w fun e w' => e = .returned (.int .u64 (num ((bs.drop a).take m))) ∧ w = w' := by
  go_enter Try.func37, Try.ntmps37
  go_wp2
  go_loop [7, 8] (fun x i => ∃ k : Nat, k ≤ m ∧ i = .int .i64 k ∧ x = .int .u64 (num ((bs.drop a).take k))) (fun _ i => m - (intOf i).toNat)
  case atStart => exact ⟨0, by omega, rfl, rfl⟩
  case round =>
    obtain ⟨k, hk, rfl, rfl⟩ := hrel
    by_cases hlt : k < m
    · have hx : num ((bs.drop a).take k) < 72057594037927936 := by
        have hb := num_lt ((bs.drop a).take k)
        have h2 : (256 : Nat) ^ ((bs.drop a).take k).length ≤ 256 ^ 7 := Nat.pow_le_pow_right (by omega) (by rw [List.length_take]; omega)
        omega
      obtain ⟨b, off, y, rfl, c1, hy1, hy⟩ := hr.byte (k := a + k) (by omega)
      have hts : num ((bs.drop a).take (k + 1)) = num ((bs.drop a).take k) * 256 + y.toNat := by
        rw [take_step _ _ _ (by rw [List.getElem?_drop]; exact hy1), num_snoc]
      have H := Lib.hid hts
      clear hts hy1
      generalize num ((bs.drop a).take k) = x at *
      go_wp2
      go_round
      case rel => exact ⟨k + 1, by omega, by go_num, by rw [H.out]; congr 1; omega⟩
      case measure => simp [intOf]; omega
    · obtain rfl : k = m := by omega
      go_wp2
      go_ret
      exact ⟨rfl, rfl⟩

theorem rfNumber_at (A : Option Addr) (n c : Nat) (bs : List UInt8) (a m : Nat) (z y : Int) (w : World) (hr : RdB w A n c bs) (hz : z = (a : Int)) (hy : y = (m : Int)) (hm : m ≤ 8) (ha : a + m ≤ n) (hn : n ≤ 1000000) :
    Calls Try.prog 37 #[.slice A n c, .int .i64 z, .int .i64 y] w fun e w' => e = .returned (.int .u64 (num ((bs.drop a).take m))) ∧ w = w' := by
  subst hz hy
  exact rfNumber_any A n c bs a m w hr hm ha hn

/-- What the document's own answer of a take is. -/
def GotRet (x : Nat) (t : List UInt8) (d er : Nat) (w : World) (e : Ending) (w' : World) : Prop :=
  ∃ v, e = .returned (.agg #[.int .u64 x, v, .int .i64 d, .int .i64 er]) ∧ OwB 5 w' v t ∧ Kept [] w w' ∧ ∀ g, v.ownBlock = some g → w.heap.size ≤ g
theorem got_nil (x d er : Nat) {w w' : World} {e : Ending} (he : e = .returned (.agg #[.int .u64 x, .slice none 0 0, .int .i64 d, .int .i64 er])) (hk : Kept [] w w') : GotRet x [] d er w e w' :=
  ⟨_, he, OwB.nil _ _, hk, by simp [Value.ownBlock]⟩

theorem rfTakeNum_any (A : Option Addr) (n c : Nat) (bs : List UInt8) (a : Nat) (m : Int) (w : World) (hr : RdB w A n c bs) (ha : a ≤ n) (hn : n ≤ 1000000) :
    Calls Try.prog 21 #[.slice A n c, .int .i64 a, .int .i64 m] w (GotRet (tnum (bs.drop a) m).1 [] (tnum (bs.drop a) m).2.1 (tnum (bs.drop a) m).2.2 w) := by
  by_cases hm : m < 1 ∨ 8 < m
  · have ht : tnum (bs.drop a) m = (0, 0, 14) := by unfold tnum; rw [if_pos hm]
    rw [ht]
    clear ht
    rcases hm with hm | hm
    · go_enter Try.func21, Try.ntmps21
      go_wp2
      exact bodyPost_ret (v := .agg #[.int .u64 0, .slice none 0 0, .int .i64 0, .int .i64 14]) (by simp [results, Try.results21, go_sem]) rfl (got_nil 0 0 14 rfl ((Kept.refl _ _).alloc _))
    · have hd : decide (m < 1) = false := by simp; omega
      have hd2 : decide (8 < m) = true := by simp; omega
      go_enter Try.func21, Try.ntmps21
      go_wp2
      exact bodyPost_ret (v := .agg #[.int .u64 0, .slice none 0 0, .int .i64 0, .int .i64 14]) (by simp [results, Try.results21, go_sem]) rfl (got_nil 0 0 14 rfl ((Kept.refl _ _).alloc _))
  · obtain ⟨k, rfl⟩ := Int.eq_ofNat_of_zero_le (show 0 ≤ m by omega)
    have hd : decide ((k : Int) < 1) = false := by simp; omega
    have hd2 : decide (8 < (k : Int)) = false := by simp; omega
    have hl := hr.len
    by_cases hs : (bs.drop a).length < k
    · have ht : tnum (bs.drop a) k = (0, 0, 1) := by unfold tnum; rw [if_neg hm, if_pos (by simpa using hs)]
      rw [ht]
      rw [List.length_drop] at hs
      have hg : (n : Int) - (a : Int) < (k : Int) := by omega
      clear ht hl
      go_enter Try.func21, Try.ntmps21
      go_wp2
      exact bodyPost_ret (v := .agg #[.int .u64 0, .slice none 0 0, .int .i64 0, .int .i64 1]) (by simp [results, Try.results21, go_sem]) rfl (got_nil 0 0 1 rfl ((Kept.refl _ _).alloc _))
    · have ht : tnum (bs.drop a) k = (num ((bs.drop a).take k), k, 0) := by unfold tnum; rw [if_neg hm, if_neg (by simpa using hs)]; simp
      rw [ht]
      rw [List.length_drop] at hs
      have hg : (k : Int) ≤ (n : Int) - (a : Int) := by omega
      clear ht hl
      go_enter Try.func21, Try.ntmps21
      go_wp2_with (go_at_call 37; refine (rfNumber_any A n c bs a k _ (hr.alloc _) (by omega) (by omega) hn).mono ?_; rintro e w' ⟨rfl, rfl⟩)
      exact bodyPost_ret (v := .agg #[.int .u64 (num ((bs.drop a).take k)), .slice none 0 0, .int .i64 k, .int .i64 0]) (by simp [results, Try.results21, go_sem]) rfl (got_nil _ _ 0 rfl ((Kept.refl _ _).alloc _))

set_option maxHeartbeats 4000000 in
set_option maxRecDepth 100000 in
theorem rfTakeSmall_any (A : Option Addr) (n c : Nat) (bs : List UInt8) (a : Nat) (most : Int) (w : World) (hr : RdB w A n c bs) (ha : a ≤ n) (hn : n ≤ 1000000) (h0 : 0 ≤ most) :
    Calls Try.prog 23 #[.slice A n c, .int .i64 a, .int .u64 most] w (GotRet (tsm (bs.drop a) most.toNat).1 [] (tsm (bs.drop a) most.toNat).2.1 (tsm (bs.drop a) most.toNat).2.2 w) := by
  have hl := hr.len
  rcases Nat.lt_or_ge a n with hlt | hge
  · obtain ⟨b, off, y, rfl, c1, hy1, hy⟩ := hr.byte hlt
    have hbw : b < w.heap.size := World.block_lt_of_cell? w _ c1
    have hdrop : bs.drop a = y :: bs.drop (a + 1) := by
      obtain ⟨h1, h2⟩ := List.getElem?_eq_some_iff.1 hy1
      rw [List.drop_eq_getElem_cons h1, h2]
    have hrl : (bs.drop (a + 1)).length = n - a - 1 := by rw [List.length_drop]; omega
    rw [hdrop]
    by_cases h250 : y.toNat ≤ 250
    · have hn5 : ((y.toNat : Int) == 255) = false := by simp; omega
      clear hl hy1 hdrop hrl
      by_cases hm : most.toNat < y.toNat
      · have ht : tsm (y :: bs.drop (a + 1)) most.toNat = (0, 0, 3) := by unfold tsm; simp only; rw [if_neg (by omega), if_pos h250, if_pos hm]
        rw [ht]
        have hg : most < (y.toNat : Int) := by omega
        clear ht
        go_enter Try.func23, Try.ntmps23
        go_wp2
        exact bodyPost_ret (v := .agg #[.int .u64 0, .slice none 0 0, .int .i64 0, .int .i64 3]) (by simp [results, Try.results23, go_sem]) rfl (got_nil 0 0 3 rfl (((Kept.refl _ _).alloc _).alloc _))
      · have ht : tsm (y :: bs.drop (a + 1)) most.toNat = (y.toNat, 1, 0) := by unfold tsm; simp only; rw [if_neg (by omega), if_pos h250, if_neg hm]
        rw [ht]
        have hg : (y.toNat : Int) ≤ most := by omega
        clear ht
        go_enter Try.func23, Try.ntmps23
        go_wp2
        exact bodyPost_ret (v := .agg #[.int .u64 y.toNat, .slice none 0 0, .int .i64 1, .int .i64 0]) (by simp [results, Try.results23, go_sem]) rfl (got_nil _ 1 0 rfl (((Kept.refl _ _).alloc _).alloc _))
    · by_cases h5 : y.toNat = 255
      · have ht : tsm (y :: bs.drop (a + 1)) most.toNat = (0, 0, 2) := by unfold tsm; simp only; rw [if_pos h5]
        rw [ht]
        have hn5 : ((y.toNat : Int) == 255) = true := by simp; omega
        clear ht hl hy1 hdrop hrl h5
        go_enter Try.func23, Try.ntmps23
        go_wp2
        exact bodyPost_ret (v := .agg #[.int .u64 0, .slice none 0 0, .int .i64 0, .int .i64 2]) (by simp [results, Try.results23, go_sem]) rfl (got_nil 0 0 2 rfl ((Kept.refl _ _).alloc _))
      · have hn5 : ((y.toNat : Int) == 255) = false := by simp; omega
        obtain ⟨d, hd⟩ : ∃ d : Nat, y.toNat = 250 + d := ⟨y.toNat - 250, by omega⟩
        have hd1 : 1 ≤ d := by omega
        have hd4 : d ≤ 4 := by omega
        have c2 : w.cell? ⟨b, off + a, none⟩ = some (.int .u8 (250 + (d : Int))) := by rw [c1, hd]; simp
        have hn6 : (250 + (d : Int) == 255) = false := by simp; omega
        have ht0 : tsm (y :: bs.drop (a + 1)) most.toNat = if (bs.drop (a + 1)).length < d then (0, 0, 1) else if fol (num ((bs.drop (a + 1)).take d)) ≠ d then (0, 0, 2) else if most.toNat < num ((bs.drop (a + 1)).take d) then (0, 0, 3) else (num ((bs.drop (a + 1)).take d), 1 + d, 0) := by
          unfold tsm; simp only
          rw [if_neg h5, if_neg (by omega), hd, Nat.add_sub_cancel_left]
        rw [ht0, hrl]
        have hnum := num_lt ((bs.drop (a + 1)).take d)
        have hN2 : num ((bs.drop (a + 1)).take d) < 4294967296 := by
          have h2 : (256 : Nat) ^ ((bs.drop (a + 1)).take d).length ≤ 256 ^ 4 := Nat.pow_le_pow_right (by omega) (by rw [List.length_take]; omega)
          omega
        have hr2 := hr
        have hsub : 250 + (d : Int) - 250 = (d : Int) := by omega
        clear ht0 c1 hd hy1 hl h5 hdrop hn5 hnum hrl h250
        generalize hx : num ((bs.drop (a + 1)).take d) = x at *
        have HX := Lib.hid hx
        clear hx
        by_cases hs : n - a - 1 < d
        · rw [if_pos hs]
          have hg : (n : Int) - (a : Int) - 1 < (d : Int) := by omega
          go_enter Try.func23, Try.ntmps23
          go_wp2
          exact bodyPost_ret (v := .agg #[.int .u64 0, .slice none 0 0, .int .i64 0, .int .i64 1]) (by simp [results, Try.results23, go_sem]) rfl (got_nil 0 0 1 rfl (((Kept.refl _ _).alloc _).alloc _))
        · rw [if_neg hs]
          have hg : (d : Int) ≤ (n : Int) - (a : Int) - 1 := by omega
          by_cases hlo : x ≤ 250
          · have hf : fol x ≠ d := by unfold fol; rw [if_pos hlo]; omega
            rw [if_pos hf]
            clear hf
            have hlt2 : (x : Int) < 251 := by omega
            go_enter Try.func23, Try.ntmps23
            go_wp2_with fail
            refine (rfNumber_at _ n c bs (a + 1) d _ _ _ ((hr2.alloc _).alloc _) (by omega) (by omega) (by omega) (by omega) hn).mono ?_
            rintro e w' ⟨rfl, rfl⟩
            rw [HX.out]
            go_wp2
            exact bodyPost_ret (v := .agg #[.int .u64 0, .slice none 0 0, .int .i64 0, .int .i64 2]) (by simp [results, Try.results23, go_sem]) rfl (got_nil 0 0 2 rfl (((Kept.refl _ _).alloc _).alloc _))
          · have hd251 : decide ((x : Int) < 251) = false := by simp; omega
            have hd251' : decide (x < 251) = false := by simp; omega
            have hp8 := wid_pos x
            by_cases hwd : wid x = d
            · have hf : ¬ fol x ≠ d := by unfold fol; rw [if_neg hlo, hwd]; simp
              rw [if_neg hf]
              have hne : ((d : Int) != (d : Int)) = false := by simp
              have HW := Lib.hid hwd
              clear hwd hf hp8
              by_cases hm : most.toNat < x
              · rw [if_pos hm]
                have hgt : most < (x : Int) := by omega
                go_enter Try.func23, Try.ntmps23
                go_wp2_with fail
                refine (rfNumber_at _ n c bs (a + 1) d _ _ _ ((hr2.alloc _).alloc _) (by omega) (by omega) (by omega) (by omega) hn).mono ?_
                rintro e w' ⟨rfl, rfl⟩
                rw [HX.out]
                go_wp2_with fail
                refine (width_any _ _ (by omega) (by omega)).mono ?_
                rintro e w' ⟨rfl, rfl⟩
                rw [Int.toNat_natCast, HW.out]
                go_wp2
                exact bodyPost_ret (v := .agg #[.int .u64 0, .slice none 0 0, .int .i64 0, .int .i64 3]) (by simp [results, Try.results23, go_sem]) rfl (got_nil 0 0 3 rfl (((Kept.refl _ _).alloc _).alloc _))
              · rw [if_neg hm]
                have hgt : (x : Int) ≤ most := by omega
                go_enter Try.func23, Try.ntmps23
                go_wp2_with fail
                refine (rfNumber_at _ n c bs (a + 1) d _ _ _ ((hr2.alloc _).alloc _) (by omega) (by omega) (by omega) (by omega) hn).mono ?_
                rintro e w' ⟨rfl, rfl⟩
                rw [HX.out]
                go_wp2_with fail
                refine (width_any _ _ (by omega) (by omega)).mono ?_
                rintro e w' ⟨rfl, rfl⟩
                rw [Int.toNat_natCast, HW.out]
                go_wp2
                exact bodyPost_ret (v := .agg #[.int .u64 x, .slice none 0 0, .int .i64 (1 + (d : Int)), .int .i64 0]) (by simp [results, Try.results23, go_sem]) rfl (got_nil _ (1 + d) 0 (by simp) (((Kept.refl _ _).alloc _).alloc _))
            · have hf : fol x ≠ d := by unfold fol; rw [if_neg hlo]; exact hwd
              rw [if_pos hf]
              have hne : ((wid x : Int) != (d : Int)) = true := by simp; omega
              clear hf
              go_enter Try.func23, Try.ntmps23
              go_wp2_with fail
              refine (rfNumber_at _ n c bs (a + 1) d _ _ _ ((hr2.alloc _).alloc _) (by omega) (by omega) (by omega) (by omega) hn).mono ?_
              rintro e w' ⟨rfl, rfl⟩
              rw [HX.out]
              go_wp2_with fail
              refine (width_any _ _ (by omega) (by omega)).mono ?_
              rintro e w' ⟨rfl, rfl⟩
              rw [Int.toNat_natCast]
              go_wp2
              exact bodyPost_ret (v := .agg #[.int .u64 0, .slice none 0 0, .int .i64 0, .int .i64 2]) (by simp [results, Try.results23, go_sem]) rfl (got_nil 0 0 2 rfl (((Kept.refl _ _).alloc _).alloc _))
  · have hdrop : bs.drop a = [] := List.drop_of_length_le (by omega)
    rw [hdrop]
    have hg : (n : Int) - (a : Int) < 1 := by omega
    have ht : tsm [] most.toNat = (0, 0, 1) := rfl
    rw [ht]
    clear hl hdrop ht
    go_enter Try.func23, Try.ntmps23
    go_wp2
    exact bodyPost_ret (v := .agg #[.int .u64 0, .slice none 0 0, .int .i64 0, .int .i64 1]) (by simp [results, Try.results23, go_sem]) rfl (got_nil 0 0 1 rfl ((Kept.refl _ _).alloc _))
end Go.Proofs.Ytfkhlnhnanimkaa
