/-
  Contract of the document's own Encode. No statement of the seed is proved here.
-/
import Derived.Test.YtpnpimhfakfolaaR91
import Derived.Test.YtpnpimhfakfolaaRs3
namespace Go.Proofs.Ytpnpimhfakfolaa
open Go.RowKit
set_option linter.unusedVariables false

theorem sumD9_any (k N : Nat) (hk : 1 ≤ k) (hN : N ≤ 1000000) (a : Nat → GB) (x : Nat → Nat → GB) (A : Option Addr) (n c : Nat) (A' : Option Addr) (n' c' : Nat) (w : World) (hr : RdB w A n c (rm k fun j => (a j).v)) (hl : RdL w A' n' c' (ofm k N x)) :
    Calls Try.prog 30 #[.slice A n c, .slice A' n' c'] w (SumNew (rm N fun c => (fsm k (fun l => a l * x l c)).v) 0 w) := by
  have h := sumR7_new A n c _ A' n' c' _ w hr hl (fun l hl => by rw [ofm_mem l hl]; exact hN)
  rw [(gSum_ofm hk a x).1, (gSum_ofm hk a x).2] at h
  exact h
theorem encodeD9_no (k n : Nat) (y z : Int) (A : Option Addr) (n' c : Nat) (ls : List (List UInt8)) (w : World) (hy : y = (k : Int)) (hl : RdL w A n' c ls) (h : tkn k ls = false) :
    Calls Try.prog 15 #[.int .i64 y, .int .i64 z, .slice A n' c] w (LRet2 [] 14 w) := by
  subst hy
  have hll := hl.len
  have HA := Lib.hid (alike9_any A n' c ls w hl)
  by_cases he : n' = k
  · subst he
    have hone : one1 ls = false := by
      unfold tkn at h
      rw [decide_eq_true hll, Bool.true_and] at h
      exact h
    rw [hone] at HA
    clear hl h hone hll
    go_enter Try.func15, Try.ntmps15
    go_wp2_with fail
    refine HA.out.mono ?_
    rintro e w' ⟨rfl, hk⟩
    go_wp2
    go_ret2
    exact ⟨none, 0, 0, rfl, RdL.nil _, hk⟩
  · have hE : ((n' : Int) != (k : Int)) = true := by simp; omega
    clear hl h hll HA
    go_enter Try.func15, Try.ntmps15
    go_wp2
    go_ret2
    exact ⟨none, 0, 0, rfl, RdL.nil _, Kept.refl _ _⟩
set_option maxRecDepth 100000 in
set_option maxHeartbeats 2000000 in
theorem encodeD9_any (k n N : Nat) (x : Nat → Nat → GB) (y z : Int) (A : Option Addr) (n' c : Nat) (w : World) (hy : y = (k : Int)) (hz : z = (n : Int)) (h1 : 1 ≤ k) (h2 : k ≤ n) (h3 : n ≤ 255) (hl : RdL w A n' c (ofm k N x)) (hN : N ≤ 1000000) :
    Calls Try.prog 15 #[.int .i64 y, .int .i64 z, .slice A n' c] w (LRet2 (pcs k n N x) 0 w) := by
  subst hy hz
  obtain rfl : k = n' := by have := hl.len; rw [ofm_length] at this; exact this
  have HL := Lib.hid hl
  have HA := Lib.hid (alike9_any A k c _ w hl)
  rw [one1_ofm] at HA
  obtain ⟨i1, hj0, hy0, hy1, hy2⟩ := info_parts tBinfo8
  clear hl
  go_enter Try.func15, Try.ntmps15
  go_wp2_with fail
  refine HA.out.mono ?_
  rintro e w1 ⟨rfl, hk1⟩
  have HK1 := Lib.hid hk1
  clear hk1
  go_wp2
  go_loopw [8, 9] (fun u v wr => ∃ (r : Nat) (vs : List Value) (A5 : Option Addr) (n5 c5 : Nat), r ≤ n ∧ v = .int .i64 (r : Int) ∧ u = .slice A5 n5 c5 ∧ Hid (OwV 38 wr (.slice A5 n5 c5) vs) ∧ Hid (TxtO wr (.slice A5 n5 c5) vs (ofm r N (mm k (rsr k) x))) ∧ Hid (Kept [] w wr) ∧ Hid (∀ g, (Value.slice A5 n5 c5).ownBlock = some g → w.heap.size ≤ g)) (fun _ v _ => n - (intOf v).toNat)
  case atStart => exact ⟨0, [], none, 0, 0, by omega, rfl, rfl, Lib.hid (OwV.nil _ _), Lib.hid (TxtO.nil _ _), HK1, Lib.hid (fun g hg => by simp [Value.ownBlock] at hg)⟩
  case round =>
    clear HK1
    obtain ⟨r, vs, A5, n5, c5, hr, rfl, rfl, HO5, HT5, HK5, Hb5⟩ := hrel
    by_cases hlt : r < n
    · go_wp2_with fail
      refine (rowD9_any k r _ _ _ rfl rfl h1 (by omega) (by omega)).mono ?_
      rintro e w6 ⟨g, cp, rfl, hO6, hg6, hk6⟩
      have HS := Lib.hid (sumD9_any k N h1 hN (rsr k r) x _ k cp A k c w6 hO6.rdb ((HL.out.kept0 HK5.out).kept0 hk6))
      have HK6 := Lib.hid hk6
      clear hO6 hg6 hk6
      go_wp2_with fail
      refine HS.out.mono ?_
      rintro e w7 ⟨A7, n7, c7, rfl, hr7, hk7, hb7⟩
      have hkk := HK6.out.andThen hk7
      have HO7 := Lib.hid (HO5.out.kept0 hkk)
      have hT2 : TxtO w7 (.slice A5 n5 c5) [.slice A7 n7 c7] [rm N (fun c => (mm k (rsr k) x r c).v)] := by
        refine TxtO.one hr7 (fun _ g hg a ha => ?_)
        subst ha
        have e1 := hb7 a.block rfl
        have e2 : g < wr.heap.size := by obtain ⟨_, _, _, _, _, hh⟩ := HO5.out.form; exact hh g hg
        have e3 := HK6.out.size
        omega
      have hT7 := (HT5.out.kept0 hkk).append hT2
      rw [← ofm_snoc] at hT7
      have HT7 := Lib.hid hT7
      have HV : Hid (vs.length = r) := Lib.hid (by rw [HT5.out.1, ofm_length])
      have HA7 : Hid (Kept [] w (w7.alloc (.cells #[.slice A7 n7 c7] 38))) := Lib.hid ((HK5.out.andThen hkk).alloc _)
      have HA8 : Hid (Kept [] w7 (w7.alloc (.cells #[.slice A7 n7 c7] 38))) := Lib.hid ((Kept.refl [] w7).alloc _)
      clear hr7 hk7 hb7 hkk hT2 hT7 HS HK6 HT5 HK5 HO5
      go_wp2_with (at_builtin; refine wpList_append_vals rfl (.tmp 34) (.tmp 36) 24 rfl 38 i1 _ 24 Try.underlying24 hj0 hy0 hy1 hy2 rfl (.slice A5 n5 c5) vs rfl (HO7.out.alloc _) _ 1 1 [.slice A7 n7 c7] rfl (RdV.one w7 38 _) (by simp [Value.oneCell']) (by rw [HV.out]; simp only [maxLen]; omega) (by rw [HV.out]; omega) ?_)
      intro v8 w8 ho8 hk8 hm8
      obtain ⟨hK8, hb8⟩ := app_new HA7.out Hb5.out hk8 hm8
      have HT8 := Lib.hid ((HT7.out.kept0 HA8.out).app hk8 hm8)
      obtain ⟨A8, n8, c8, rfl, _, _⟩ := ho8.form
      have HO8 := Lib.hid ho8
      have HK8 := Lib.hid hK8
      have Hb8 := Lib.hid hb8
      clear ho8 hK8 hb8 hk8 hm8 HA7 HA8 HT7 Hb5 HV HO7
      go_wp2
      go_roundw
      case rel => exact ⟨r + 1, _, A8, n8, c8, by omega, by go_num, rfl, HO8, HT8, HK8, Hb8⟩
      case measure => simp [intOf]; omega
    · obtain rfl : n = r := by omega
      have HL5 : Hid (RdL wr A5 n5 c5 (pcs k n N x)) := Lib.hid (RdL.of_vals HO5.out.rd HT5.out.txt)
      clear HT5 Hb5 HO5
      go_wp2
      go_ret2
      exact ⟨A5, n5, c5, rfl, HL5.out, HK5.out⟩
end Go.Proofs.Ytpnpimhfakfolaa
