/-
  Contract of the document's own copy of texts. No statement of the seed is proved here.
-/
import Derived.Test.YtmfbgogfefgglaaR7s
import Derived.Test.YtmfbgogfefgglaaTxtO
import Derived.Test.YtmfbgogfefgglaaInfo
import Derived.Test.YtmfbgogfefgglaaBinMath
namespace Go.Proofs.Ytmfbgogfefgglaa
open Go.RowKit
set_option linter.unusedVariables false

theorem tBinfo7 : (Try.prog.info? 37).map (fun i => (i.zero, i.size, i.bytes)) = some (some (.slice none 0 0), 1, 24) := by kernel_rfl
theorem TxtO.one {w : World} {u : Value} {A1 : Option Addr} {n1 c1 : Nat} {b1 : List UInt8} (h1 : RdB w A1 n1 c1 b1)
    (o1 : 0 < n1 → ∀ g, u.ownBlock = some g → ∀ a, A1 = some a → a.block ≠ g) : TxtO w u [.slice A1 n1 c1] [b1] := by
  refine ⟨rfl, fun j v l e1 e2 => ?_⟩
  match j, e1, e2 with
  | 0, e1, e2 =>
    simp at e1 e2
    subst e1 e2
    exact ⟨A1, n1, c1, rfl, h1, o1⟩
  | j + 1, e1, e2 => simp at e1
/-- Texts of the call's own. -/
def CopyRet (ls : List (List UInt8)) (w : World) (e : Ending) (w' : World) : Prop := ∃ A n c, e = .returned (.slice A n c) ∧ RdL w' A n c ls ∧ Kept [] w w'

set_option maxRecDepth 100000 in
set_option maxHeartbeats 2000000 in
theorem copyAll7_any (A : Option Addr) (n c : Nat) (ls : List (List UInt8)) (w : World) (hr : RdL w A n c ls) (hn : n ≤ 1000) (hbig : ∀ l ∈ ls, l.length ≤ 1000000) : Calls Try.prog 12 #[.slice A n c] w (CopyRet ls w) := by
  have HR := Lib.hid hr
  have Hln := Lib.hid hr.len
  have Hb := Lib.hid hbig
  have b1 := hr.cap
  have b2 := hr.most
  unfold maxLen at b2
  obtain ⟨i0, hi0, hz0, hz1, hz2⟩ := info_parts u8info
  obtain ⟨i1, hj0, hy0, hy1, hy2⟩ := info_parts tBinfo7
  clear hr hbig
  go_enter Try.func12, Try.ntmps12
  go_wp2
  go_loopw [3, 4] (fun v i wr => ∃ (k : Nat) (vs : List Value) (A5 : Option Addr) (n5 c5 : Nat), k ≤ n ∧ i = .int .i64 k ∧ v = .slice A5 n5 c5 ∧ OwV 37 wr (.slice A5 n5 c5) vs ∧ Hid (TxtO wr (.slice A5 n5 c5) vs (ls.take k)) ∧ Kept [] w wr ∧ Hid (∀ g, (Value.slice A5 n5 c5).ownBlock = some g → w.heap.size ≤ g)) (fun _ i _ => n - (intOf i).toNat)
  case atStart => exact ⟨0, [], none, 0, 0, by omega, rfl, rfl, OwV.nil _ _, Lib.hid (by rw [List.take_zero]; exact TxtO.nil _ _), Kept.refl _ _, Lib.hid (fun g hg => by simp [Value.ownBlock] at hg)⟩
  case round =>
    obtain ⟨k, vs, A5, n5, c5, hk, rfl, rfl, ho5, HT5, hK5, Hb5⟩ := hrel
    by_cases hlt : k < n
    · obtain ⟨b, off, Aj, nj, cj, tk, rfl, hbl, c0, g0, hrj0⟩ := HR.out.at_ hlt
      have c1 := (hK5.cell (p := ⟨b, off + k, none⟩) hbl (by simp)).trans c0
      have hjl : nj ≤ 1000000 := by rw [← hrj0.len]; exact Hb.out tk (List.mem_of_getElem? g0)
      have HS := Lib.hid (take_step ls k tk g0)
      have HV : Hid (vs.length = k) := Lib.hid (by rw [HT5.out.1, List.length_take]; have := Hln.out; omega)
      have HRj := Lib.hid (hrj0.kept0 hK5)
      have r1c := hrj0.cap
      have r1m := hrj0.most
      unfold maxLen at r1m
      have hlt5 : ∀ g, (Value.slice A5 n5 c5).ownBlock = some g → g < wr.heap.size := by obtain ⟨_, _, _, _, _, hh⟩ := ho5.form; exact hh
      have Hlt5 := Lib.hid hlt5
      have HO5 := Lib.hid ho5
      have HK5 := Lib.hid hK5
      clear c0 g0 hrj0 hlt5 ho5 hK5
      go_wp2_with (at_builtin; refine wpList_append_bytes rfl (.tmp 12) (.tmp 16) 37 rfl 5 i0 _ 1 Try.underlying37 hi0 hz0 hz1 hz2 rfl (.slice none 0 0) [] rfl (OwB.nil _ _) Aj nj cj tk rfl HRj.out (by simp only [maxLen, List.length_nil]; omega) (by simp only [List.length_nil]; omega) ?_)
      intro v6 w6 ho6 hk6 hm6
      obtain ⟨A6, n6, c6, rfl, hr6, _⟩ := ho6.form
      have hk6' : Kept [] wr w6 := hk6
      have hf6 : ∀ g, (Value.slice A6 n6 c6).ownBlock = some g → wr.heap.size ≤ g := fun g hg => by
        rcases hm6 g hg with h | h
        · simp [Value.ownBlock] at h
        · exact h
      have hK6 := HK5.out.andThen hk6'
      have ho56 := HO5.out.kept0 hk6'
      have hT2 : TxtO w6 (.slice A5 n5 c5) [.slice A6 n6 c6] [tk] := by
        refine TxtO.one hr6 (fun _ g hg a ha => ?_)
        subst ha
        have h1 := hf6 a.block rfl
        have h2 := Hlt5.out g hg
        omega
      have hT6 := (HT5.out.kept0 hk6').append hT2
      rw [← HS.out] at hT6
      have HT6 := Lib.hid hT6
      have HA : Hid (Kept [] w (w6.alloc (.cells #[.slice A6 n6 c6] 37))) := Lib.hid (hK6.alloc _)
      have HA6 : Hid (Kept [] w6 (w6.alloc (.cells #[.slice A6 n6 c6] 37))) := Lib.hid ((Kept.refl [] w6).alloc _)
      have HO56 := Lib.hid ho56
      clear hT2 hT6 hf6 hr6 ho6 hk6 hk6' hm6 ho56 hK6 HO5 HT5 HK5 HRj c1 Hlt5
      go_wp2_with (at_builtin; refine wpList_append_vals rfl (.tmp 18) (.tmp 20) 22 rfl 37 i1 _ 24 Try.underlying22 hj0 hy0 hy1 hy2 rfl (.slice A5 n5 c5) vs rfl (HO56.out.alloc _) _ 1 1 [.slice A6 n6 c6] rfl (RdV.one w6 37 _) (by simp [Value.oneCell']) (by rw [HV.out]; simp only [maxLen]; omega) (by rw [HV.out]; omega) ?_)
      intro v8 w8 ho8 hk8 hm8
      obtain ⟨hK8, hb8⟩ := app_new HA.out Hb5.out hk8 hm8
      have HT8 := Lib.hid ((HT6.out.kept0 HA6.out).app hk8 hm8)
      obtain ⟨A8, n8, c8, rfl, _, _⟩ := ho8.form
      have Hb8 := Lib.hid hb8
      clear hb8 hk8 hm8 HA HA6 HT6 Hb5 HV HS HO56
      go_wp2
      go_roundw
      case rel => exact ⟨k + 1, _, A8, n8, c8, by omega, by go_num, rfl, ho8, HT8, hK8, Hb8⟩
      case measure => simp [intOf]; omega
    · obtain rfl : n = k := by omega
      have hT := HT5.out
      rw [List.take_of_length_le (by have := Hln.out; omega)] at hT
      have HL5 : Hid (RdL wr A5 n5 c5 ls) := Lib.hid (RdL.of_vals ho5.rd hT.txt)
      clear hT HT5 Hb5 ho5
      go_wp2
      go_ret
      exact ⟨A5, n5, c5, rfl, HL5.out, hK5⟩
end Go.Proofs.Ytmfbgogfefgglaa
