/-
  Contracts of layer 10, the document's own: a text's word. No statement of the seed is proved here.
-/
import Derived.Test.YtboienifeciidaaNr5
import Derived.Test.YtboienifeciidaaNr1
import Derived.Test.YtboienifeciidaaNm4
import Derived.Test.YtboienifeciidaaMemStep
import Derived.RegionTactic
import Derived.Deep.RegionHeld3
namespace Go.Proofs.Ytboienifeciidaa
open Go.RowKit
set_option linter.unusedVariables false

theorem wrap8 {z : Int} (h0 : 0 ≤ z) (h1 : z < 256) : IntKind.u8.wrap z = z := by
  simp [IntKind.wrap, IntKind.bits, IntKind.signed]
  omega

set_option maxRecDepth 100000 in
set_option maxHeartbeats 4000000 in
theorem rWord_any (s : ByteArray) (w : World) (hs : s.size ≤ 1000000) : Calls Try.prog 17 #[.string s] w fun e w' => e = .returned (.string ⟨(wordL (strL s)).toArray⟩) ∧ Kept [] w w' := by
  obtain ⟨i0, hi, hz0, hz1, hz2⟩ := info_parts bextra.infoByte
  obtain ⟨T, hT⟩ : ∃ T, wordL (strL s) = T := ⟨_, rfl⟩
  rw [hT]
  have HT := Lib.hid hT
  clear hT
  go_enter Try.func17, Try.ntmps17
  go_wp2
  go_loopw [3, 4] (fun o i wr => ∃ (k : Nat) (A : Option Addr) (n c : Nat) (acc : List UInt8), k ≤ s.size ∧ i = .int .i64 k ∧ o = .slice A n c ∧ OwB 5 wr (.slice A n c) acc ∧ Kept [] w wr ∧ Hid (acc.length ≤ 3 * k) ∧ Hid (∀ g, (Value.slice A n c).ownBlock = some g → w.heap.size ≤ g) ∧ Hid (acc ++ wordL ((strL s).drop k) = T)) (fun _ i _ => s.size - (intOf i).toNat)
  case atStart => exact ⟨0, none, 0, 0, [], by omega, rfl, rfl, OwB.nil _ _, Kept.refl _ _, Lib.hid (by simp), Lib.hid (by simp [Value.ownBlock]), Lib.hid (by rw [List.drop_zero, HT.out]; rfl)⟩
  case round =>
    obtain ⟨k, A, n, c, acc, hks, rfl, rfl, ho, hK, Hal, Hb, Ha⟩ := hrel
    by_cases hp : k < s.size
    · obtain ⟨b, hb⟩ := str_at' s k hp
      obtain ⟨zb, hzb⟩ : ∃ z : Int, (b.toNat : Int) = z := ⟨_, rfl⟩
      have hx : ∀ v, (Instr.index 9 (.string s) (.int .i64 (k : Int))).run Try.prog v = .ok (.int .u8 zb) v := fun v => by rw [← hzb]; exact idx_str hp rfl hb Try.underlying9 v
      have hb8 := UInt8.toNat_lt b
      have h0 : 0 ≤ zb := by omega
      have h256 : zb < 256 := by omega
      have Hw := Lib.hid (word_at _ _ _ hb)
      have Hzb := Lib.hid hzb
      have hal3 : acc.length ≤ 3 * s.size := by have := Hal.out; omega
      cases hself : selfB b with
      | true =>
        have HZ : Hid (selfZ zb = true) := Lib.hid (by rw [← hzb, selfZ_byte]; exact hself)
        have Ha2 : Hid ((acc ++ [b]) ++ wordL ((strL s).drop (k + 1)) = T) := Lib.hid (by rw [← Ha.out, Hw.out, List.append_assoc]; unfold wordB; rw [if_pos hself])
        have hr1 := RdB.one wr 5 zb b Hzb.out.symm
        clear hself hb Hw Ha hzb hb8
        go_wp2_with (first | (go_at_call 26; refine (rSelf_any _ _).mono ?_; rw [HZ.out]; rintro e w' ⟨rfl, rfl⟩) | (at_builtin; refine wpList_append_bytes rfl (.tmp 15) (.tmp 19) 35 rfl 5 i0 _ 1 Try.underlying35 hi hz0 hz1 hz2 rfl (.slice A n c) acc rfl (ho.alloc _) _ 1 1 [b] rfl hr1 (by simp only [maxLen]; omega) (by omega) ?_))
        intro v2 w2 ho2 hk2 hm2
        obtain ⟨hK2, hb2⟩ := app_new (hK.alloc _) Hb.out hk2 hm2
        obtain ⟨A2, n2, c2, rfl, _, _⟩ := ho2.form
        have Hb2 := Lib.hid hb2
        clear hk2 hm2 ho hr1 hK hb2
        go_wp2
        go_roundw
        case rel => exact ⟨k + 1, A2, n2, c2, acc ++ [b], by omega, by go_num, rfl, ho2, hK2, Lib.hid (by have := Hal.out; rw [List.length_append, List.length_singleton]; omega), Hb2, Ha2⟩
        case measure => simp [intOf]; omega
      | false =>
        have HZ : Hid (selfZ zb = false) := Lib.hid (by rw [← hzb, selfZ_byte]; exact hself)
        obtain ⟨q, hq⟩ : ∃ q : Int, zb / 16 = q := ⟨_, rfl⟩
        obtain ⟨r, hr⟩ : ∃ r : Int, zb % 16 = r := ⟨_, rfl⟩
        have hq2 : zb.tdiv 16 = q := by rw [Int.tdiv_eq_ediv_of_nonneg h0]; exact hq
        have hr2 : zb.tmod 16 = r := by rw [Int.tmod_eq_emod_of_nonneg h0]; exact hr
        have Hq : Hid (q = ((b.toNat / 16 : Nat) : Int)) := Lib.hid (by omega)
        have Hr : Hid (r = ((b.toNat % 16 : Nat) : Int)) := Lib.hid (by omega)
        have hb16 : b.toNat / 16 < 16 := by omega
        have hb17 : b.toNat % 16 < 16 := by omega
        have hwz := wrap8 h0 h256
        have hwq := wrap8 (z := q) (by omega) (by omega)
        have hwr := wrap8 (z := r) (by omega) (by omega)
        obtain ⟨d1, hd1⟩ : ∃ d, digB (b.toNat / 16) = d := ⟨_, rfl⟩
        obtain ⟨d2, hd2⟩ : ∃ d, digB (b.toNat % 16) = d := ⟨_, rfl⟩
        obtain ⟨y1, hy1⟩ : ∃ y : Int, (d1.toNat : Int) = y := ⟨_, rfl⟩
        obtain ⟨y2, hy2⟩ : ∃ y : Int, (d2.toNat : Int) = y := ⟨_, rfl⟩
        have HD1 : Hid (((digB (b.toNat / 16)).toNat : Int) = y1) := Lib.hid (by rw [hd1, hy1])
        have HD2 : Hid (((digB (b.toNat % 16)).toNat : Int) = y2) := Lib.hid (by rw [hd2, hy2])
        have hm1 : y1 < 256 := by have := UInt8.toNat_lt d1; omega
        have hm2 : y2 < 256 := by have := UInt8.toNat_lt d2; omega
        have hwy1 := wrap8 (z := y1) (by omega) hm1
        have hwy2 := wrap8 (z := y2) (by omega) hm2
        have Ha2 : Hid ((acc ++ [37, d1, d2]) ++ wordL ((strL s).drop (k + 1)) = T) := Lib.hid (by rw [← Ha.out, Hw.out, List.append_assoc]; unfold wordB; rw [if_neg (by rw [hself]; simp), hd1, hd2])
        have HR3 : Hid (RdB (wr.alloc (.cells #[.int .u8 37, .int .u8 y1, .int .u8 y2] 5)).drew (some ⟨wr.heap.size, 0, none⟩) 3 3 [37, d1, d2]) := Lib.hid (by
          rw [← hy1, ← hy2]
          exact (RdB.lit wr 5 _ 3 [37, d1, d2] rfl rfl (by simp [maxLen])).kept0 (Kept.refl [] _).drew)
        have HO3 : Hid (OwB 5 (wr.alloc (.cells #[.int .u8 37, .int .u8 y1, .int .u8 y2] 5)).drew (.slice A n c) acc) := Lib.hid (ho.kept0 (((Kept.refl [] wr).alloc _).drew))
        have HK3 : Hid (Kept [] w (wr.alloc (.cells #[.int .u8 37, .int .u8 y1, .int .u8 y2] 5)).drew) := Lib.hid ((hK.alloc _).drew)
        clear hself hb hzb hd1 hd2 hy1 hy2 hm1 hm2 ho hK Ha Hw
        go_wp2_with (go_at_call 26; refine (rSelf_any _ _).mono ?_; rw [HZ.out]; rintro e w' ⟨rfl, rfl⟩)
        go_region_held3 (fun w' => True) (trivial) (first
          | (go_at_call 28; with_reducible change Calls _ _ #[.int .u8 q] _ _; refine (rDigit_any q (b.toNat / 16) Hq.out hb16 _).mono ?_; rw [HD1.out]; rintro e w' ⟨rfl, rfl⟩)
          | (go_at_call 28; with_reducible change Calls _ _ #[.int .u8 r] _ _; refine (rDigit_any r (b.toNat % 16) Hr.out hb17 _).mono ?_; rw [HD2.out]; rintro e w' ⟨rfl, rfl⟩)
          | (refine step_append_bytes (by rfl) (.tmp 21) (.tmp 32) 35 (by rfl) 5 i0 _ 1 Try.underlying35 hi hz0 hz1 hz2 (by rfl) _ acc (by rfl) HO3.out _ 3 3 [37, d1, d2] (by rfl) HR3.out (by simp only [maxLen]; omega) (by omega) ?_; intro v2 w2 ho2 hk2 hm2; obtain ⟨hK2, hb2⟩ := app_new HK3.out Hb.out hk2 hm2; obtain ⟨A2, n2, c2, rfl, _, _⟩ := ho2.form))
        all_goals have Hb2 := Lib.hid hb2
        all_goals clear hk2 hm2 hb2 HR3 HO3 HK3
        all_goals go_wp2
        all_goals go_roundw
        all_goals first
          | exact ⟨k + 1, A2, n2, c2, acc ++ [37, d1, d2], by omega, by go_num, rfl, ho2, hK2, Lib.hid (by have := Hal.out; rw [List.length_append]; simp; omega), Hb2, Ha2⟩
          | (simp [intOf]; omega)
    · have Hf : Hid (acc = T) := Lib.hid (by rw [← Ha.out, drop_end s k hp]; simp [wordL])
      obtain ⟨A2, n2, c2, he, hrd, _⟩ := ho.form
      cases he
      have hcv := run_str_rdb (P := Try.prog) 35 9 5 hrd Try.underlying35 Try.underlying5 Try.underlying9
      clear Ha hrd ho
      go_wp2
      go_ret
      exact ⟨by rw [Hf.out] <;> rfl, hK⟩
end Go.Proofs.Ytboienifeciidaa
