/-
  Contract of layer 11, the document's own: a text cut in slices. No statement of the seed is proved here.
-/
import Derived.Test.YtmjeojbdieaakaaDoorPb
import Derived.Test.YtmjeojbdieaakaaDoorAoM
namespace Go.Proofs.YtmjeojbdieaakaaDoor
open Go.RowKit
set_option linter.unusedVariables false

theorem size1ao : (Tryd.prog.info? 5).map (·.size) = some 1 := by kernel_rfl
set_option maxRecDepth 100000 in
set_option maxHeartbeats 2000000 in
theorem rCut_any (A : Option Addr) (n c : Nat) (bs : List UInt8) (k m : Nat) (w : World) (hr : RdB w A n c bs) (hk1 : 1 ≤ k) (hk2 : k ≤ 255) (hm2 : m ≤ 2000) (hn : n = k * m) :
    Calls Tryd.prog 31 #[.int .i64 (k : Int), .slice A n c] w (CopyRet (cutL k m bs) w) := by
  have HR := Lib.hid hr
  have HC : Hid ((cutL k m bs).length = k) := Lib.hid (cutL_length k m bs)
  have HG : Hid (∀ i, i < k → (cutL k m bs)[i]? = some ((bs.drop (i * m)).take m)) := Lib.hid (fun i hi => cutL_get bs hi)
  have Hmul : Hid (∀ i, i < k → i * m + m ≤ n ∧ n ≤ 510000) := Lib.hid (fun i hi => by
    have h1 := Nat.mul_le_mul_right m (show i + 1 ≤ k by omega)
    have h2 := Nat.mul_le_mul hk2 hm2
    rw [Nat.succ_mul] at h1
    omega)
  have hn3 : n ≤ 510000 := by have := Hmul.out 0 (by omega); omega
  have hdv : wrap64 ((n : Int) / (k : Int)) = (m : Int) := by
    have h1 : n / k = m := by rw [hn]; exact Nat.mul_div_cancel_left m (by omega)
    have h2 : (n : Int) / (k : Int) = ((n / k : Nat) : Int) := by omega
    rw [h2, h1]
    exact IntWalk.wrap64_in _ (by omega)
  have hk0 : ¬ (k : Int) = 0 := by omega
  obtain ⟨ls, hls⟩ : ∃ ls, cutL k m bs = ls := ⟨_, rfl⟩
  rw [hls] at HC HG ⊢
  have b1 := hr.cap
  have b2 := hr.most
  unfold maxLen at b2
  obtain ⟨i0, hi0, hz0, hz1, hz2⟩ := info_parts u8info
  obtain ⟨i1, hj0, hy0, hy1, hy2⟩ := info_parts tBinfo7
  clear hr hls hn
  go_enter Tryd.func31, Tryd.ntmps31
  go_wp2
  rw [hdv]
  clear hdv
  go_loopw [6, 7] (fun v i wr => ∃ (q : Nat) (vs : List Value) (A5 : Option Addr) (n5 c5 : Nat), q ≤ k ∧ i = .int .i64 q ∧ v = .slice A5 n5 c5 ∧ OwV 22 wr (.slice A5 n5 c5) vs ∧ Hid (TxtO wr (.slice A5 n5 c5) vs (ls.take q)) ∧ Kept [] w wr ∧ Hid (∀ g, (Value.slice A5 n5 c5).ownBlock = some g → w.heap.size ≤ g)) (fun _ i _ => k - (intOf i).toNat)
  case atStart => exact ⟨0, [], none, 0, 0, by omega, rfl, rfl, OwV.nil _ _, Lib.hid (by rw [List.take_zero]; exact TxtO.nil _ _), Kept.refl _ _, Lib.hid (fun g hg => by simp [Value.ownBlock] at hg)⟩
  case round =>
    obtain ⟨q, vs, A5, n5, c5, hk, rfl, rfl, ho5, HT5, hK5, Hb5⟩ := hrel
    by_cases hlt : q < k
    · obtain ⟨o, ho⟩ : ∃ o, q * m = o := ⟨_, rfl⟩
      have g0 := HG.out q hlt
      have hmu0 := Hmul.out q hlt
      rw [ho] at g0 hmu0
      have Hmu : Hid ((q : Int) * (m : Int) = (o : Int)) := Lib.hid (by rw [← ho]; exact (Int.natCast_mul q m).symm)
      obtain ⟨tk, htk⟩ : ∃ tk, (bs.drop o).take m = tk := ⟨_, rfl⟩
      obtain ⟨Aj, hrj0, qj⟩ := HR.out.cutMid (P := Tryd.prog) 22 5 Tryd.underlying22 size1ao o (o + m) (o : Int) ((o : Int) + (m : Int)) rfl (by omega) (by omega) (by omega)
      rw [Nat.add_sub_cancel_left] at hrj0 qj
      rw [htk] at hrj0 g0
      have HS := Lib.hid (take_step ls q tk g0)
      have HV : Hid (vs.length = q) := Lib.hid (by rw [HT5.out.1, List.length_take]; have := HC.out; omega)
      obtain ⟨cj, hcj⟩ : ∃ cj, c - o = cj := ⟨_, rfl⟩
      rw [hcj] at hrj0 qj
      have HRj := Lib.hid (hrj0.kept0 hK5)
      have r1c := hrj0.cap
      have r1m := hrj0.most
      unfold maxLen at r1m
      have hlt5 : ∀ g, (Value.slice A5 n5 c5).ownBlock = some g → g < wr.heap.size := by obtain ⟨_, _, _, _, _, hh⟩ := ho5.form; exact hh
      have Hlt5 := Lib.hid hlt5
      have HO5 := Lib.hid ho5
      have HK5 := Lib.hid hK5
      clear g0 hrj0 hlt5 ho5 hK5 htk ho hcj
      have hmu := Hmu.out
      go_wp2_with (at_builtin; refine wpList_append_bytes rfl (.tmp 18) (.tmp 28) 22 rfl 5 i0 _ 1 Tryd.underlying22 hi0 hz0 hz1 hz2 rfl (.slice none 0 0) [] rfl (OwB.nil _ _) Aj m cj tk rfl HRj.out (by simp only [maxLen, List.length_nil]; omega) (by simp only [List.length_nil]; omega) ?_)
      intro v6 w6 ho6 hk6 hm6
      obtain ⟨A6, n6, c6, rfl, hr6, _⟩ := ho6.form
      have hk6' : Kept [] wr w6 := hk6
      have hf6 : ∀ g, (Value.slice A6 n6 c6).ownBlock = some g → wr.heap.size ≤ g := fun g hg => by
        rcases hm6 g hg with h | h
        · simp [Value.ownBlock] at h
        · exact h
      have hK6 := HK5.out.andThen hk6'
      have ho56 := HO5.out.kept0 hk6'
      have hT2 : TxtO w6 (.slice A5 n5 c5) [.slice A6 n6 c6] [tk] := by
        refine TxtO.one hr6 (fun _ g hg a ha => ?_)
        subst ha
        have h1 := hf6 a.block rfl
        have h2 := Hlt5.out g hg
        omega
      have hT6 := (HT5.out.kept0 hk6').append hT2
      rw [← HS.out] at hT6
      have HT6 := Lib.hid hT6
      have HA : Hid (Kept [] w (w6.alloc (.cells #[.slice A6 n6 c6] 22))) := Lib.hid (hK6.alloc _)
      have HA6 : Hid (Kept [] w6 (w6.alloc (.cells #[.slice A6 n6 c6] 22))) := Lib.hid ((Kept.refl [] w6).alloc _)
      have HO56 := Lib.hid ho56
      clear hT2 hT6 hf6 hr6 ho6 hk6 hk6' hm6 ho56 hK6 HO5 HT5 HK5 HRj Hlt5
      go_wp2_with (at_builtin; refine wpList_append_vals rfl (.tmp 30) (.tmp 32) 28 rfl 22 i1 _ 24 Tryd.underlying28 hj0 hy0 hy1 hy2 rfl (.slice A5 n5 c5) vs rfl (HO56.out.alloc _) _ 1 1 [.slice A6 n6 c6] rfl (RdV.one w6 22 _) (by simp [Value.oneCell']) (by rw [HV.out]; simp only [maxLen]; omega) (by rw [HV.out]; omega) ?_)
      intro v8 w8 ho8 hk8 hm8
      obtain ⟨hK8, hb8⟩ := app_new HA.out Hb5.out hk8 hm8
      have HT8 := Lib.hid ((HT6.out.kept0 HA6.out).app hk8 hm8)
      obtain ⟨A8, n8, c8, rfl, _, _⟩ := ho8.form
      have Hb8 := Lib.hid hb8
      clear hb8 hk8 hm8 HA HA6 HT6 Hb5 HV HS HO56
      go_wp2
      go_roundw
      case rel => exact ⟨q + 1, _, A8, n8, c8, by omega, by go_num, rfl, ho8, HT8, hK8, Hb8⟩
      case measure => simp [intOf]; omega
    · obtain rfl : k = q := by omega
      have hT := HT5.out
      rw [List.take_of_length_le (by have := HC.out; omega)] at hT
      have HL5 : Hid (RdL wr A5 n5 c5 ls) := Lib.hid (RdL.of_vals ho5.rd hT.txt)
      clear hT HT5 Hb5 ho5
      go_wp2
      go_ret
      exact ⟨A5, n5, c5, rfl, HL5.out, hK5⟩
end Go.Proofs.YtmjeojbdieaakaaDoor
