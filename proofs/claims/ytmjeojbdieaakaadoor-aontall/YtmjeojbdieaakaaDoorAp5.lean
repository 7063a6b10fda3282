/-
  Contract of layer 11 (aont): a text in pieces. No statement of the seed is proved here.
-/
import Derived.Test.YtmjeojbdieaakaaDoorAo2
import Derived.Test.YtmjeojbdieaakaaDoorPb
namespace Go.Proofs.YtmjeojbdieaakaaDoor
open Go.RowKit
set_option linter.unusedVariables false

/-- Texts of the call's own, each in a row of its own. -/
def CutRet (ls : List (List UInt8)) (w : World) (e : Ending) (w' : World) : Prop := ∃ A n c, e = .returned (.slice A n c) ∧ OwL w.heap.size w' A n c ls ∧ Kept [] w w'
set_option maxRecDepth 100000 in
set_option maxHeartbeats 2000000 in
theorem aCut_any (A : Option Addr) (n c : Nat) (bs : List UInt8) (k m : Nat) (w : World) (hr : RdB w A n c bs) (hk1 : 1 ≤ k) (hk2 : k ≤ 255) (hm1 : 1 ≤ m) (hm2 : m ≤ 2000) (hn : n = k * m) :
    Calls Tryd.prog 28 #[.slice A n c, .int .i64 (m : Int)] w (CutRet (cutL k m bs) w) := by
  have HR := Lib.hid hr
  have HC : Hid ((cutL k m bs).length = k) := Lib.hid (cutL_length k m bs)
  have HG : Hid (∀ i, i < k → (cutL k m bs)[i]? = some ((bs.drop (i * m)).take m)) := Lib.hid (fun i hi => cutL_get bs hi)
  have Hmul : Hid (∀ i, i < k → i * m + m ≤ n ∧ n ≤ 510000) := Lib.hid (fun i hi => by
    have h1 := Nat.mul_le_mul_right m (show i + 1 ≤ k by omega)
    have h2 := Nat.mul_le_mul hk2 hm2
    rw [Nat.succ_mul] at h1
    omega)
  have Hlt : Hid (∀ q, q ≤ k → q * m < n → q < k) := Lib.hid (fun q h1 h2 => by
    rcases Nat.lt_or_ge q k with h3 | h3
    · exact h3
    · have : q = k := by omega
      subst this
      omega)
  have Hge : Hid (∀ q, q ≤ k → ¬ q * m < n → k = q) := Lib.hid (fun q h1 h2 => by
    rcases Nat.lt_or_ge q k with h3 | h3
    · have h4 := Nat.mul_le_mul_right m (show q + 1 ≤ k by omega)
      rw [Nat.succ_mul] at h4
      omega
    · omega)
  have hn3 : n ≤ 510000 := by have := Hmul.out 0 (by omega); omega
  obtain ⟨ls, hls⟩ : ∃ ls, cutL k m bs = ls := ⟨_, rfl⟩
  rw [hls] at HC HG ⊢
  have b1 := hr.cap
  have b2 := hr.most
  unfold maxLen at b2
  obtain ⟨i1, hj0, hy0, hy1, hy2⟩ := info_parts tBinfo7
  clear hr hls hn
  go_enter Tryd.func28, Tryd.ntmps28
  go_wp2
  go_loopw [5, 6] (fun v i wr => ∃ (q o : Nat) (vs : List Value) (A5 : Option Addr) (n5 c5 : Nat), q ≤ k ∧ o ≤ n ∧ Hid (o = q * m) ∧ i = .int .i64 (o : Int) ∧ v = .slice A5 n5 c5 ∧ OwV 22 wr (.slice A5 n5 c5) vs ∧ Hid (TxtW w.heap.size wr (.slice A5 n5 c5) vs (ls.take q)) ∧ Kept [] w wr ∧ Hid (∀ g, (Value.slice A5 n5 c5).ownBlock = some g → w.heap.size ≤ g)) (fun _ i _ => n - (intOf i).toNat)
  case atStart => exact ⟨0, 0, [], none, 0, 0, by omega, by omega, Lib.hid (by omega), rfl, rfl, OwV.nil _ _, Lib.hid (by rw [List.take_zero]; exact TxtW.nil _ _ _), Kept.refl _ _, Lib.hid (fun g hg => by simp [Value.ownBlock] at hg)⟩
  case round =>
    obtain ⟨q, o, vs, A5, n5, c5, hk, ho2, Ho, rfl, rfl, ho5, HT5, hK5, Hb5⟩ := hrel
    by_cases hlt : o < n
    · have hqk : q < k := Hlt.out q hk (by rw [← Ho.out]; exact hlt)
      have g0 := HG.out q hqk
      have hmu0 := Hmul.out q hqk
      rw [← Ho.out] at g0 hmu0
      obtain ⟨tk, htk⟩ : ∃ tk, (bs.drop o).take m = tk := ⟨_, rfl⟩
      obtain ⟨Aj, hrj0, qj⟩ := HR.out.cutMid (P := Tryd.prog) 22 5 Tryd.underlying22 size1ao o (o + m) (o : Int) ((o : Int) + (m : Int)) rfl (by omega) (by omega) (by omega)
      rw [Nat.add_sub_cancel_left] at hrj0 qj
      rw [htk] at hrj0 g0
      have HS := Lib.hid (take_step ls q tk g0)
      have HV : Hid (vs.length = q) := Lib.hid (by rw [HT5.out.1, List.length_take]; have := HC.out; omega)
      obtain ⟨cj, hcj⟩ : ∃ cj, c - o = cj := ⟨_, rfl⟩
      rw [hcj] at hrj0 qj
      have HRj := Lib.hid (hrj0.kept0 hK5)
      have hlt5 : ∀ g, (Value.slice A5 n5 c5).ownBlock = some g → g < wr.heap.size := by obtain ⟨_, _, _, _, _, hh⟩ := ho5.form; exact hh
      have Hlt5 := Lib.hid hlt5
      have HO5 := Lib.hid ho5
      have HK5 := Lib.hid hK5
      have ho3 : o + m ≤ n := hmu0.1
      have Ho3 : Hid (o + m = (q + 1) * m) := Lib.hid (by rw [Nat.succ_mul, Ho.out])
      clear g0 hrj0 hlt5 ho5 hK5 htk hcj hmu0
      go_wp2_with fail
      refine (clone_any Aj m cj tk _ HRj.out (by omega)).mono ?_
      rintro e w6 ⟨v6, rfl, ho6, hk6, hf6⟩
      obtain ⟨A6, n6, c6, rfl, hr6, _⟩ := ho6.form
      obtain rfl : m = n6 := by rw [← hr6.len, HRj.out.len]
      have hK6 := HK5.out.andThen hk6
      have ho56 := HO5.out.kept0 hk6
      have hT6 := (HT5.out.kept0 hk6).snoc ho6 (by omega) wr HK5.out.size HT5.out Hlt5.out hf6
      rw [← HS.out] at hT6
      have HT6 := Lib.hid hT6
      have HA : Hid (Kept [] w (w6.alloc (.cells #[.slice A6 m c6] 22))) := Lib.hid (hK6.alloc _)
      have HA6 : Hid (Kept [] w6 (w6.alloc (.cells #[.slice A6 m c6] 22))) := Lib.hid ((Kept.refl [] w6).alloc _)
      have HO56 := Lib.hid ho56
      clear hT6 hf6 hr6 ho6 hk6 ho56 hK6 HO5 HT5 HK5 HRj Hlt5
      go_wp2_with (at_builtin; refine wpList_append_vals rfl (.tmp 14) (.tmp 22) 28 rfl 22 i1 _ 24 Tryd.underlying28 hj0 hy0 hy1 hy2 rfl (.slice A5 n5 c5) vs rfl (HO56.out.alloc _) _ 1 1 [.slice A6 m c6] rfl (RdV.one w6 22 _) (by simp [Value.oneCell']) (by rw [HV.out]; simp only [maxLen]; omega) (by rw [HV.out]; omega) ?_)
      intro v8 w8 ho8 hk8 hm8
      obtain ⟨hK8, hb8⟩ := app_new HA.out Hb5.out hk8 hm8
      have HT8 := Lib.hid ((HT6.out.kept0 HA6.out).app hk8 hm8)
      obtain ⟨A8, n8, c8, rfl, _, _⟩ := ho8.form
      have Hb8 := Lib.hid hb8
      clear hb8 hk8 hm8 HA HA6 HT6 Hb5 HV HS HO56
      go_wp2
      go_roundw
      case rel => exact ⟨q + 1, o + m, _, A8, n8, c8, by omega, by omega, Ho3, by go_num, rfl, ho8, HT8, hK8, Hb8⟩
      case measure => simp [intOf]; omega
    · have hkq : k = q := Hge.out q hk (by rw [← Ho.out]; exact hlt)
      have hT := HT5.out
      rw [List.take_of_length_le (by have := HC.out; omega)] at hT
      have HL5 : Hid (OwL w.heap.size wr A5 n5 c5 ls) := Lib.hid ⟨vs, ho5, hT⟩
      clear hT HT5 Hb5 ho5 hkq
      go_wp2
      go_ret
      exact ⟨A5, n5, c5, rfl, HL5.out, hK5⟩
end Go.Proofs.YtmjeojbdieaakaaDoor
