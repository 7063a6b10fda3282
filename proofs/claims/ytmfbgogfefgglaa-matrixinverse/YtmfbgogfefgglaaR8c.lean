/-
  Contracts of the document's own copy of rows, once more: rows that may be written to. No statement of the seed is proved here.
-/
import Derived.Test.YtmfbgogfefgglaaR7c
import Derived.Test.YtmfbgogfefgglaaOwR
namespace Go.Proofs.Ytmfbgogfefgglaa
open Go.RowKit
set_option linter.unusedVariables false

/-- Rows of the call's own, each in a block of its own. -/
def CopyMRet (n k : Nat) (m : Nat → Nat → GB) (w : World) (e : Ending) (w' : World) : Prop := ∃ b c g cp, e = .returned (.slice (some ⟨b, 0, none⟩) n c) ∧ n ≤ c ∧ c ≤ maxLen ∧ OwR w' b n k g cp m ∧ (∀ i, i < n → w.heap.size ≤ g i) ∧ Kept [] w w'
set_option maxRecDepth 100000 in
set_option maxHeartbeats 2000000 in
theorem copyM8_any (A : Option Addr) (n c K : Nat) (m : Nat → Nat → GB) (w : World) (hr : RdL w A n c (ofm n K m)) (hn1 : 1 ≤ n) (hn : n ≤ 1000) (hk1 : 1 ≤ K) (hk : K ≤ 1000) : Calls Try.prog 12 #[.slice A n c] w (CopyMRet n K m w) := by
  have HR := Lib.hid hr
  have b1 := hr.cap
  have b2 := hr.most
  unfold maxLen at b2
  obtain ⟨i0, hi0, hz0, hz1, hz2⟩ := info_parts u8info
  obtain ⟨i1, hj0, hy0, hy1, hy2⟩ := info_parts tBinfo7
  clear hr
  go_enter Try.func12, Try.ntmps12
  go_wp2
  go_loopw [3, 4] (fun v i wr => ∃ (k : Nat) (vs : List Value) (A5 : Option Addr) (n5 c5 : Nat), k ≤ n ∧ i = .int .i64 k ∧ v = .slice A5 n5 c5 ∧ OwV 37 wr (.slice A5 n5 c5) vs ∧ Hid (RowsO w.heap.size wr (.slice A5 n5 c5) vs K k m) ∧ Kept [] w wr ∧ Hid (∀ g, (Value.slice A5 n5 c5).ownBlock = some g → w.heap.size ≤ g)) (fun _ i _ => n - (intOf i).toNat)
  case atStart => exact ⟨0, [], none, 0, 0, by omega, rfl, rfl, OwV.nil _ _, Lib.hid (RowsO.nil _ _ _ _ _), Kept.refl _ _, Lib.hid (fun g hg => by simp [Value.ownBlock] at hg)⟩
  case round =>
    obtain ⟨k, vs, A5, n5, c5, hk', rfl, rfl, ho5, HT5, hK5, Hb5⟩ := hrel
    by_cases hlt : k < n
    · obtain ⟨b, off, Aj, nj, cj, tk, rfl, hbl, c0, g0, hrj0⟩ := HR.out.at_ hlt
      rw [ofm_get hlt] at g0
      obtain rfl := Option.some.inj g0
      obtain rfl : nj = K := by rw [← hrj0.len, rm_length]
      have c1 := (hK5.cell (p := ⟨b, off + k, none⟩) hbl (by simp)).trans c0
      have HV : Hid (vs.length = k) := Lib.hid HT5.out.length
      have HRj := Lib.hid (hrj0.kept0 hK5)
      have r1c := hrj0.cap
      have r1m := hrj0.most
      unfold maxLen at r1m
      have hlt5 : ∀ g, (Value.slice A5 n5 c5).ownBlock = some g → g < wr.heap.size := by obtain ⟨_, _, _, _, _, hh⟩ := ho5.form; exact hh
      have Hlt5 := Lib.hid hlt5
      have HO5 := Lib.hid ho5
      have HK5 := Lib.hid hK5
      clear c0 g0 hrj0 hlt5 ho5 hK5
      go_wp2_with (at_builtin; refine wpList_append_bytes rfl (.tmp 12) (.tmp 16) 37 rfl 5 i0 _ 1 Try.underlying37 hi0 hz0 hz1 hz2 rfl (.slice none 0 0) [] rfl (OwB.nil _ _) Aj nj cj _ rfl HRj.out (by simp only [maxLen, List.length_nil]; omega) (by simp only [List.length_nil]; omega) ?_)
      intro v6 w6 ho6 hk6 hm6
      obtain ⟨A6, n6, c6, rfl, hr6, _⟩ := ho6.form
      obtain rfl : n6 = nj := by rw [← hr6.len, rm_length]
      have hk6' : Kept [] wr w6 := hk6
      have hf6 : ∀ g, (Value.slice A6 n6 c6).ownBlock = some g → wr.heap.size ≤ g := fun g hg => by
        rcases hm6 g hg with h | h
        · simp [Value.ownBlock] at h
        · exact h
      have hK6 := HK5.out.andThen hk6'
      have ho56 := HO5.out.kept0 hk6'
      have hT6 := (HT5.out.kept0 hk6').snoc ho6 (by omega) wr hk6'.size HK5.out.size HT5.out.lt Hlt5.out hf6
      have HT6 := Lib.hid hT6
      have HA : Hid (Kept [] w (w6.alloc (.cells #[.slice A6 n6 c6] 37))) := Lib.hid (hK6.alloc _)
      have HA6 : Hid (Kept [] w6 (w6.alloc (.cells #[.slice A6 n6 c6] 37))) := Lib.hid ((Kept.refl [] w6).alloc _)
      have HO56 := Lib.hid ho56
      clear hT6 hf6 hr6 ho6 hk6 hk6' hm6 ho56 hK6 HO5 HT5 HK5 HRj c1 Hlt5
      go_wp2_with (at_builtin; refine wpList_append_vals rfl (.tmp 18) (.tmp 20) 22 rfl 37 i1 _ 24 Try.underlying22 hj0 hy0 hy1 hy2 rfl (.slice A5 n5 c5) vs rfl (HO56.out.alloc _) _ 1 1 [.slice A6 n6 c6] rfl (RdV.one w6 37 _) (by simp [Value.oneCell']) (by rw [HV.out]; simp only [maxLen]; omega) (by rw [HV.out]; omega) ?_)
      intro v8 w8 ho8 hk8 hm8
      obtain ⟨hK8, hb8⟩ := app_new HA.out Hb5.out hk8 hm8
      have HT8 := Lib.hid ((HT6.out.kept0 HA6.out).app hk8 hm8)
      obtain ⟨A8, n8, c8, rfl, _, _⟩ := ho8.form
      have Hb8 := Lib.hid hb8
      clear hb8 hk8 hm8 HA HA6 HT6 Hb5 HV HO56
      go_wp2
      go_roundw
      case rel => exact ⟨k + 1, _, A8, n8, c8, by omega, by go_num, rfl, ho8, HT8, hK8, Hb8⟩
      case measure => simp [intOf]; omega
    · obtain rfl : n = k := by omega
      have hT := HT5.out
      have hlen : n5 = n := by rw [← ho5.rd.len, hT.length]
      subst hlen
      obtain ⟨b, rfl, _⟩ := ho5.own (by omega)
      obtain ⟨g, cp, hO, hg⟩ := hT.own ho5.rd (by omega)
      have q1 := ho5.rd.cap
      have q2 := ho5.rd.most
      have HO := Lib.hid hO
      have HG := Lib.hid hg
      clear hT HT5 Hb5 ho5 hO hg
      go_wp2
      go_ret
      exact ⟨b, c5, g, cp, rfl, q1, q2, HO.out, HG.out, hK5⟩
end Go.Proofs.Ytmfbgogfefgglaa
