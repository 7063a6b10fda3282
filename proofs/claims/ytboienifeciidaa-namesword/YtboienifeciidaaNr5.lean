/-
  Contracts of layer 10, the document's own: a name's plain form. No statement of the seed is proved here.
-/
import Derived.Test.YtboienifeciidaaNr4
import Derived.Test.YtboienifeciidaaNm3
import Derived.Test.YtboienifeciidaaMemV
namespace Go.Proofs.Ytboienifeciidaa
open Go.RowKit
set_option linter.unusedVariables false

theorem str_at' (s : ByteArray) (k : Nat) (h : k < s.size) : ∃ b, (strL s)[k]? = some b := ⟨_, List.getElem?_eq_getElem (by rw [strL_length]; exact h)⟩
theorem low_at (l : List UInt8) (k : Nat) (b : UInt8) (h : l[k]? = some b) : (l.drop k).map lowB = lowB b :: (l.drop (k + 1)).map lowB := by
  obtain ⟨hk, hb⟩ := List.getElem?_eq_some_iff.1 h
  rw [List.drop_eq_getElem_cons hk, hb, List.map_cons]

set_option maxRecDepth 100000 in
set_option maxHeartbeats 4000000 in
theorem rPlain_any (s : ByteArray) (w : World) (hs : s.size ≤ 1000000) : Calls Try.prog 9 #[.string s] w fun e w' => e = .returned (plainV (strL s)) ∧ Kept [] w w' := by
  cases hR : rightL (strL s) with
  | false =>
    rw [plainV_wrong hR]
    have HR := Lib.hid hR
    clear hR
    go_enter Try.func9, Try.ntmps9
    go_wp2_with (go_at_call 11; refine (rRight_any s _ (by omega)).mono ?_; rw [HR.out]; rintro e w1 ⟨rfl, hk1⟩)
    go_ret2
    exact ⟨rfl, hk1⟩
  | true =>
    rw [plainV_right hR]
    obtain ⟨i0, hi, hz0, hz1, hz2⟩ := info_parts bextra.infoByte
    obtain ⟨T, hT⟩ : ∃ T, (strL s).map lowB = T := ⟨_, rfl⟩
    rw [hT]
    have HT := Lib.hid hT
    have HR := Lib.hid hR
    clear hR hT
    go_enter Try.func9, Try.ntmps9
    go_wp2_with (go_at_call 11; refine (rRight_any s _ (by omega)).mono ?_; rw [HR.out]; rintro e w1 ⟨rfl, hk1⟩)
    go_loopw [4, 5] (fun o i wr => ∃ (k : Nat) (A : Option Addr) (n c : Nat) (acc : List UInt8), k ≤ s.size ∧ i = .int .i64 k ∧ o = .slice A n c ∧ OwB 5 wr (.slice A n c) acc ∧ Kept [] w wr ∧ acc.length = k ∧ Hid (∀ g, (Value.slice A n c).ownBlock = some g → w.heap.size ≤ g) ∧ Hid (acc ++ ((strL s).drop k).map lowB = T)) (fun _ i _ => s.size - (intOf i).toNat)
    case atStart => exact ⟨0, none, 0, 0, [], by omega, rfl, rfl, OwB.nil _ _, hk1, rfl, Lib.hid (by simp [Value.ownBlock]), Lib.hid (by rw [List.drop_zero, HT.out]; rfl)⟩
    case round =>
      obtain ⟨k, A, n, c, acc, hks, rfl, rfl, ho, hK, hal, Hb, Ha⟩ := hrel
      have Hal := Lib.hid hal
      clear hal
      by_cases hp : k < s.size
      · obtain ⟨b, hb⟩ := str_at' s k hp
        obtain ⟨zb, hzb⟩ : ∃ z : Int, (b.toNat : Int) = z := ⟨_, rfl⟩
        have hx : ∀ v, (Instr.index 9 (.string s) (.int .i64 (k : Int))).run Try.prog v = .ok (.int .u8 zb) v := fun v => by rw [← hzb]; exact idx_str hp rfl hb Try.underlying9 v
        have hb8 := UInt8.toNat_lt b
        have h0 : 0 ≤ zb := by omega
        have h256 : zb < 256 := by omega
        obtain ⟨y, hy⟩ : ∃ y, lowB b = y := ⟨_, rfl⟩
        have Hy : Hid ((y.toNat : Int) = if 65 ≤ zb ∧ zb ≤ 90 then zb + 32 else zb) := Lib.hid (by rw [← hy, lowB_toNat, ← hzb]; unfold lowN; split <;> split <;> omega)
        have Ha2 : Hid ((acc ++ [y]) ++ ((strL s).drop (k + 1)).map lowB = T) := Lib.hid (by rw [← Ha.out, low_at _ _ _ hb, hy, List.append_assoc]; rfl)
        clear hb hzb hb8 hy Ha
        rcases (by omega : zb < 65 ∨ (65 ≤ zb ∧ zb ≤ 90) ∨ 90 < zb) with h | h | h
        · have p1 : ¬ 65 ≤ zb := by omega
          have Hz : Hid (zb = (y.toNat : Int)) := Lib.hid (by rw [Hy.out, if_neg (by omega)])
          have hr1 := RdB.one wr 5 (zb) y Hz.out
          go_wp2_with (at_builtin; refine wpList_append_bytes rfl (.tmp 27) (.tmp 29) 35 rfl 5 i0 _ 1 Try.underlying35 hi hz0 hz1 hz2 rfl (.slice A n c) acc rfl (ho.alloc _) _ 1 1 [y] rfl hr1 (by have := Hal.out; simp only [maxLen]; omega) (by have := Hal.out; omega) ?_)
          intro v2 w2 ho2 hk2 hm2
          obtain ⟨hK2, hb2⟩ := app_new (hK.alloc _) Hb.out hk2 hm2
          obtain ⟨A2, n2, c2, rfl, _, _⟩ := ho2.form
          have Hb2 := Lib.hid hb2
          clear hk2 hm2 ho hr1 hK hb2
          go_wp2
          go_roundw
          case rel => exact ⟨k + 1, A2, n2, c2, acc ++ [y], by omega, by go_num, rfl, ho2, hK2, by rw [List.length_append, Hal.out]; rfl, Hb2, Ha2⟩
          case measure => simp [intOf]; omega
        · obtain ⟨p1, p2⟩ := h
          have Hz : Hid (zb + 32 = (y.toNat : Int)) := Lib.hid (by rw [Hy.out, if_pos ⟨p1, p2⟩])
          have hr1 := RdB.one wr 5 (zb + 32) y Hz.out
          go_wp2_with (at_builtin; refine wpList_append_bytes rfl (.tmp 27) (.tmp 29) 35 rfl 5 i0 _ 1 Try.underlying35 hi hz0 hz1 hz2 rfl (.slice A n c) acc rfl (ho.alloc _) _ 1 1 [y] rfl hr1 (by have := Hal.out; simp only [maxLen]; omega) (by have := Hal.out; omega) ?_)
          intro v2 w2 ho2 hk2 hm2
          obtain ⟨hK2, hb2⟩ := app_new (hK.alloc _) Hb.out hk2 hm2
          obtain ⟨A2, n2, c2, rfl, _, _⟩ := ho2.form
          have Hb2 := Lib.hid hb2
          clear hk2 hm2 ho hr1 hK hb2
          go_wp2
          go_roundw
          case rel => exact ⟨k + 1, A2, n2, c2, acc ++ [y], by omega, by go_num, rfl, ho2, hK2, by rw [List.length_append, Hal.out]; rfl, Hb2, Ha2⟩
          case measure => simp [intOf]; omega
        · have p1 : 65 ≤ zb := by omega
          have p2 : ¬ zb ≤ 90 := by omega
          have Hz : Hid (zb = (y.toNat : Int)) := Lib.hid (by rw [Hy.out, if_neg (by omega)])
          have hr1 := RdB.one wr 5 (zb) y Hz.out
          go_wp2_with (at_builtin; refine wpList_append_bytes rfl (.tmp 27) (.tmp 29) 35 rfl 5 i0 _ 1 Try.underlying35 hi hz0 hz1 hz2 rfl (.slice A n c) acc rfl (ho.alloc _) _ 1 1 [y] rfl hr1 (by have := Hal.out; simp only [maxLen]; omega) (by have := Hal.out; omega) ?_)
          intro v2 w2 ho2 hk2 hm2
          obtain ⟨hK2, hb2⟩ := app_new (hK.alloc _) Hb.out hk2 hm2
          obtain ⟨A2, n2, c2, rfl, _, _⟩ := ho2.form
          have Hb2 := Lib.hid hb2
          clear hk2 hm2 ho hr1 hK hb2
          go_wp2
          go_roundw
          case rel => exact ⟨k + 1, A2, n2, c2, acc ++ [y], by omega, by go_num, rfl, ho2, hK2, by rw [List.length_append, Hal.out]; rfl, Hb2, Ha2⟩
          case measure => simp [intOf]; omega
      · have Hf : Hid (acc = T) := Lib.hid (by rw [← Ha.out, drop_end s k hp]; simp)
        obtain ⟨A2, n2, c2, he, hrd, _⟩ := ho.form
        cases he
        have hcv := run_str_rdb (P := Try.prog) 35 9 5 hrd Try.underlying35 Try.underlying5 Try.underlying9
        clear Ha hrd ho
        go_wp2
        go_ret2
        exact ⟨by rw [Hf.out] <;> rfl, hK⟩
end Go.Proofs.Ytboienifeciidaa
