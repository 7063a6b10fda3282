/-
  Contract of the document's own Solve, first part: the copy of the texts, what stands in rows that are half cleared. No statement of the seed is proved here.
-/
import Derived.Test.YtpnpimhfakfolaaRowZ
import Derived.Test.YtpnpimhfakfolaaR93
import Derived.Test.YtpnpimhfakfolaaRs5
import Derived.Test.YtpnpimhfakfolaaPa
namespace Go.Proofs.Ytpnpimhfakfolaa
open Go.RowKit
set_option linter.unusedVariables false

theorem mulR9_q (x y r : UInt8) (w : World) (hr : r = gmul 0x1d x y) :
    Calls Try.prog 43 #[.int .u8 (x.toNat : Int), .int .u8 (y.toNat : Int)] w fun e w' => e = .returned (.int .u8 (r.toNat : Int)) ∧ w' = w := by rw [hr]; exact mulR7_any x y _ _ w rfl rfl
theorem invR9_q (x r : UInt8) (w : World) (hr : r = ginv 0x1d x) :
    Calls Try.prog 46 #[.int .u8 (x.toNat : Int)] w fun e w' => e = .returned (.int .u8 (r.toNat : Int)) ∧ w' = w := by rw [hr]; exact invR7_any x _ w rfl
/-- Row C scaled, up to column j. -/
def sc9 (v : GB) (m : Nat → Nat → GB) (C j x y : Nat) : GB := if x = C ∧ y < j then v * m C y else m x y
section
variable {v : GB} {m : Nat → Nat → GB} {C j x y : Nat}
theorem sc9_start : sc9 v m C 0 x y = m x y := by unfold sc9; rw [if_neg (by omega)]
theorem sc9_here (hy : j ≤ y) : sc9 v m C j x y = m x y := by unfold sc9; rw [if_neg (by omega)]
theorem sc9_set : (if x = C then (if y = j then v * m C j else sc9 v m C j C y) else sc9 v m C j x y) = sc9 v m C (j + 1) x y := by
  unfold sc9
  by_cases e : x = C
  · rw [if_pos e]
    by_cases e2 : y = j
    · rw [if_pos e2, if_pos (by omega), e2]
    · rw [if_neg e2]
      by_cases e3 : y < j
      · rw [if_pos (by omega), if_pos (by omega)]
      · rw [if_neg (by omega), if_neg (by omega), e]
  · rw [if_neg e, if_neg (by omega), if_neg (by omega)]
theorem sc9_row (h : x ≠ C) : sc9 v m C j x y = m x y := by unfold sc9; rw [if_neg (by omega)]
theorem sc9_piv (h : y < j) : sc9 v m C j C y = v * m C y := by unfold sc9; rw [if_pos ⟨rfl, h⟩]
end
/-- Rows ahead of t cleared by row C, and row t up to column j; D tells how many times. -/
def cl9 (D : Nat → GB) (L : Nat → Nat → GB) (C t j x y : Nat) : GB := if x ≠ C ∧ (x < t ∨ (x = t ∧ y < j)) then L x y + D x * L C y else L x y
section
variable {D : Nat → GB} {L : Nat → Nat → GB} {C t j x y K : Nat}
theorem cl9_start : cl9 D L C 0 0 x y = L x y := by unfold cl9; rw [if_neg (by omega)]
theorem cl9_here (hy : j ≤ y) : cl9 D L C t j t y = L t y := by unfold cl9; rw [if_neg (by omega)]
theorem cl9_piv : cl9 D L C t j C y = L C y := by unfold cl9; rw [if_neg (by omega)]
theorem cl9_next (hy : y < K) : cl9 D L C t K x y = cl9 D L C (t + 1) 0 x y := by
  unfold cl9
  by_cases h : x ≠ C ∧ x < t + 1
  · rw [if_pos (by omega), if_pos (by omega)]
  · rw [if_neg (by omega), if_neg (by omega)]
theorem cl9_skip (h : t = C ∨ D t = 0) : cl9 D L C t 0 x y = cl9 D L C (t + 1) 0 x y := by
  by_cases e : x = t
  · subst e
    rcases h with h | h
    · unfold cl9; rw [if_neg (by omega), if_neg (by omega)]
    · unfold cl9
      rw [if_neg (by omega)]
      split
      · rw [h, f_zero_mul, Fld.add_zero]
      · rfl
  · unfold cl9
    by_cases h2 : x ≠ C ∧ x < t
    · rw [if_pos (by omega), if_pos (by omega)]
    · rw [if_neg (by omega), if_neg (by omega)]
theorem cl9_set (ht : t ≠ C) : (if x = t then (if y = j then L t j + D t * L C j else cl9 D L C t j t y) else cl9 D L C t j x y) = cl9 D L C t (j + 1) x y := by
  unfold cl9
  by_cases e : x = t
  · subst e
    rw [if_pos rfl]
    by_cases e2 : y = j
    · rw [if_pos e2, if_pos (by omega), e2]
    · rw [if_neg e2]
      by_cases e3 : y < j
      · rw [if_pos (by omega), if_pos (by omega)]
      · rw [if_neg (by omega), if_neg (by omega)]
  · rw [if_neg e]
    by_cases e3 : x ≠ C ∧ x < t
    · rw [if_pos (by omega), if_pos (by omega)]
    · rw [if_neg (by omega), if_neg (by omega)]
end
theorem cl9_lead1 {m : Nat → Nat → GB} {C k x y : Nat} (hC : C < k) (hx : x < k) (hy : y < k) : cl9 (fun x => sc9 (Fld.inv (m C C)) m C k x C) (sc9 (Fld.inv (m C C)) m C k) C k 0 x y = lead1 m C C x y := by
  unfold lead1
  by_cases e : x = C
  · rw [if_pos e, e, cl9_piv, sc9_piv hy]
  · rw [if_neg e]
    unfold cl9
    rw [if_pos ⟨e, .inl hx⟩]
    simp only [sc9_row e, sc9_piv hy]
theorem cl9_lead2 {m l : Nat → Nat → GB} {C k N x y : Nat} (hC : C < k) (hx : x < k) (hy : y < N) : cl9 (fun x => sc9 (Fld.inv (m C C)) m C k x C) (sc9 (Fld.inv (m C C)) l C N) C k 0 x y = lead2 m l C C x y := by
  unfold lead2
  by_cases e : x = C
  · rw [if_pos e, e, cl9_piv, sc9_piv hy]
  · rw [if_neg e]
    unfold cl9
    rw [if_pos ⟨e, .inl hx⟩]
    simp only [sc9_row e, sc9_piv hy]

/-- Rows of the call's own, each in a block of its own. -/
def CopyZRet (n k : Nat) (m : Nat → Nat → GB) (w : World) (e : Ending) (w' : World) : Prop := ∃ b c G g cp, e = .returned (.slice (some ⟨b, 0, none⟩) n c) ∧ n ≤ c ∧ c ≤ maxLen ∧ OwZ w' b n k G g cp m ∧ w.heap.size ≤ b ∧ (0 < k → ∀ i, i < n → w.heap.size ≤ g i) ∧ Kept [] w w'
set_option maxRecDepth 100000 in
set_option maxHeartbeats 2000000 in
theorem copyZ9_any (A : Option Addr) (n c K : Nat) (m : Nat → Nat → GB) (w : World) (hr : RdL w A n c (ofm n K m)) (hn1 : 1 ≤ n) (hn : n ≤ 1000) (hk : K ≤ 1000000) : Calls Try.prog 13 #[.slice A n c] w (CopyZRet n K m w) := by
  have HR := Lib.hid hr
  have b1 := hr.cap
  have b2 := hr.most
  unfold maxLen at b2
  obtain ⟨i0, hi0, hz0, hz1, hz2⟩ := info_parts u8info
  obtain ⟨i1, hj0, hy0, hy1, hy2⟩ := info_parts tBinfo7
  clear hr
  go_enter Try.func13, Try.ntmps13
  go_wp2
  go_loopw [3, 4] (fun v i wr => ∃ (k : Nat) (vs : List Value) (A5 : Option Addr) (n5 c5 : Nat), k ≤ n ∧ i = .int .i64 k ∧ v = .slice A5 n5 c5 ∧ OwV 38 wr (.slice A5 n5 c5) vs ∧ Hid (RowsZ w.heap.size wr (.slice A5 n5 c5) vs K k m) ∧ Kept [] w wr ∧ Hid (∀ g, (Value.slice A5 n5 c5).ownBlock = some g → w.heap.size ≤ g)) (fun _ i _ => n - (intOf i).toNat)
  case atStart => exact ⟨0, [], none, 0, 0, by omega, rfl, rfl, OwV.nil _ _, Lib.hid (RowsZ.nil _ _ _ _ _), Kept.refl _ _, Lib.hid (fun g hg => by simp [Value.ownBlock] at hg)⟩
  case round =>
    obtain ⟨k, vs, A5, n5, c5, hk', rfl, rfl, ho5, HT5, hK5, Hb5⟩ := hrel
    by_cases hlt : k < n
    · obtain ⟨b, off, Aj, nj, cj, tk, rfl, hbl, c0, g0, hrj0⟩ := HR.out.at_ hlt
      rw [ofm_get hlt] at g0
      obtain rfl := Option.some.inj g0
      obtain rfl : nj = K := by rw [← hrj0.len, rm_length]
      have c1 := (hK5.cell (p := ⟨b, off + k, none⟩) hbl (by simp)).trans c0
      have HV : Hid (vs.length = k) := Lib.hid HT5.out.length
      have HRj := Lib.hid (hrj0.kept0 hK5)
      have r1c := hrj0.cap
      have r1m := hrj0.most
      unfold maxLen at r1m
      have hlt5 : ∀ g, (Value.slice A5 n5 c5).ownBlock = some g → g < wr.heap.size := by obtain ⟨_, _, _, _, _, hh⟩ := ho5.form; exact hh
      have Hlt5 := Lib.hid hlt5
      have HO5 := Lib.hid ho5
      have HK5 := Lib.hid hK5
      clear c0 g0 hrj0 hlt5 ho5 hK5
      go_wp2_with (at_builtin; refine wpList_append_bytes rfl (.tmp 12) (.tmp 16) 38 rfl 5 i0 _ 1 Try.underlying38 hi0 hz0 hz1 hz2 rfl (.slice none 0 0) [] rfl (OwB.nil _ _) Aj nj cj _ rfl HRj.out (by simp only [maxLen, List.length_nil]; omega) (by simp only [List.length_nil]; omega) ?_)
      intro v6 w6 ho6 hk6 hm6
      obtain ⟨A6, n6, c6, rfl, hr6, _⟩ := ho6.form
      obtain rfl : n6 = nj := by rw [← hr6.len, rm_length]
      have hk6' : Kept [] wr w6 := hk6
      have hf6 : ∀ g, (Value.slice A6 n6 c6).ownBlock = some g → wr.heap.size ≤ g := fun g hg => by
        rcases hm6 g hg with h | h
        · simp [Value.ownBlock] at h
        · exact h
      have hK6 := HK5.out.andThen hk6'
      have ho56 := HO5.out.kept0 hk6'
      have hT6 := HT5.out.snoc (A := A6) (c := c6) hk6' HK5.out.size Hlt5.out hr6.cap hr6.most (fun h0 => by
        obtain ⟨gg, rfl, _⟩ := ho6.own h0
        exact ⟨gg, rfl, ho6.own1 rfl h0, hf6 gg rfl⟩)
      have HT6 := Lib.hid hT6
      have HA : Hid (Kept [] w (w6.alloc (.cells #[.slice A6 n6 c6] 38))) := Lib.hid (hK6.alloc _)
      have HA6 : Hid (Kept [] w6 (w6.alloc (.cells #[.slice A6 n6 c6] 38))) := Lib.hid ((Kept.refl [] w6).alloc _)
      have HO56 := Lib.hid ho56
      clear hT6 hf6 hr6 ho6 hk6 hk6' hm6 ho56 hK6 HO5 HT5 HK5 HRj c1 Hlt5
      go_wp2_with (at_builtin; refine wpList_append_vals rfl (.tmp 18) (.tmp 20) 24 rfl 38 i1 _ 24 Try.underlying24 hj0 hy0 hy1 hy2 rfl (.slice A5 n5 c5) vs rfl (HO56.out.alloc _) _ 1 1 [.slice A6 n6 c6] rfl (RdV.one w6 38 _) (by simp [Value.oneCell']) (by rw [HV.out]; simp only [maxLen]; omega) (by rw [HV.out]; omega) ?_)
      intro v8 w8 ho8 hk8 hm8
      obtain ⟨hK8, hb8⟩ := app_new HA.out Hb5.out hk8 hm8
      have HT8 := Lib.hid ((HT6.out.kept0 HA6.out).app hk8 hm8)
      obtain ⟨A8, n8, c8, rfl, _, _⟩ := ho8.form
      have Hb8 := Lib.hid hb8
      clear hb8 hk8 hm8 HA HA6 HT6 Hb5 HV HO56
      go_wp2
      go_roundw
      case rel => exact ⟨k + 1, _, A8, n8, c8, by omega, by go_num, rfl, ho8, HT8, hK8, Hb8⟩
      case measure => simp [intOf]; omega
    · obtain rfl : n = k := by omega
      have hT := HT5.out
      have hlen : n5 = n := by rw [← ho5.rd.len, hT.length]
      subst hlen
      obtain ⟨b, rfl, _⟩ := ho5.own (by omega)
      obtain ⟨G, g, cp, hO, hg⟩ := hT.own ho5 (by omega)
      have q1 := ho5.rd.cap
      have q2 := ho5.rd.most
      have hb := Hb5.out b rfl
      have HO := Lib.hid hO
      have HG := Lib.hid hg
      clear hT HT5 Hb5 ho5 hO hg
      go_wp2
      go_ret
      exact ⟨b, c5, G, g, cp, rfl, q1, q2, HO.out, hb, HG.out, hK5⟩
end Go.Proofs.Ytpnpimhfakfolaa
