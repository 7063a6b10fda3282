/-
  Contract of layer 11 (aont): the inside of a secret. No statement of the seed is proved here.
-/
import Derived.Test.YtmjeojbdieaakaaDoorAp1
import Derived.Test.YtmjeojbdieaakaaDoorAp2
import Derived.Test.YtmjeojbdieaakaaDoorCtr3
import Derived.Test.YtmjeojbdieaakaaDoorPb
namespace Go.Proofs.YtmjeojbdieaakaaDoor
open Go.RowKit
set_option linter.unusedVariables false

theorem ins_splice {bs : List UInt8} {C n : Nat} (hl : bs.length = n) (h : n ≤ C + 14) :
    splice (splice (List.replicate (C + 16) (0 : UInt8)) 0 (be 2 n)) 2 bs = be 2 n ++ bs ++ List.replicate (C + 14 - n) 0 := by
  have h2 := be_length 2 n
  unfold splice
  rw [h2, hl, List.take_zero, List.nil_append, List.drop_replicate]
  rw [List.take_append_of_le_length (by omega), List.take_of_length_le (by omega), List.drop_append, List.drop_of_length_le (by omega), List.nil_append, h2, List.drop_replicate]
  rw [List.append_assoc, show C + 16 - (0 + 2) - (2 + n - 2) = C + 14 - n by omega]

set_option maxRecDepth 100000 in
set_option maxHeartbeats 2000000 in
theorem aIns_any (A : Option Addr) (n c : Nat) (bs : List UInt8) (w : World) (hr : RdB w A n c bs) (hn : n ≤ 1000) :
    Calls Tryd.prog 25 #[.int .i64 (clsN n : Nat), .slice A n c] w (CtxRet (insL bs) (clsN n + 16) w) := by
  obtain ⟨i0, hi0, hz0, hz1, hz2⟩ := info_parts u8info
  have hl := hr.len
  have hC1 := clsN_ge hn
  have hC2 := clsN_le n
  have HI : Hid (splice (splice (List.replicate (clsN n + 16) (0 : UInt8)) 0 (be 2 n)) 2 bs = insL bs) := Lib.hid (by rw [ins_splice hl (by omega)]; unfold insL; rw [hl])
  obtain ⟨C, hC⟩ : ∃ C, clsN n = C := ⟨_, rfl⟩
  rw [hC] at hC1 hC2 HI ⊢
  have HR := Lib.hid hr
  have HL := Lib.hid hl
  have b1 := hr.cap
  have b2 := hr.most
  unfold maxLen at b2
  clear hC hl hr
  go_enter Tryd.func25, Tryd.ntmps25
  go_wp2_with fail
  refine (wNum_any w.heap.size [w.heap.size] [] (n : Int) 2 _ (Wri.new w) (by omega) (by omega) (by omega) (by omega) (by rw [Int.toNat_natCast]; omega) (by simp)).mono ?_
  rw [Int.toNat_natCast]
  rintro e w1 ⟨rfl, F1, hP1⟩
  have HW1 := Lib.hid hP1.wri
  have HK1 : Hid (Kept [] w w1) := Lib.hid (((Kept.refl [] w).alloc _).trans hP1.kept (by simp))
  have HN : Hid ((C : Int) + 16 = ((C + 16 : Nat) : Int)) := Lib.hid (by omega)
  clear hP1
  go_wp2_with (first
    | (go_at_call 44; refine (aHs_any _ (by omega) (by omega) _).mono ?_; rw [HN.out]; rintro e w' ⟨rfl, rfl⟩)
    | (with_reducible change wpList _ _ _ (⟨_, Op.makeSlice _ _ _, _, _, _, _⟩ :: _) _ _; refine wpList_make_bytes rfl _ _ 22 rfl 5 i0 Tryd.underlying22 hi0 hz0 hz1 hz2 _ _ _ _ (C + 16) rfl rfl rfl rfl (by omega) ?_))
  intro w4 hown4 hk4
  have hG4 := hown4.blk
  have hs1 := HK1.out.size
  obtain ⟨g, hg⟩ : ∃ g, g = w1.heap.size := ⟨_, rfl⟩
  rw [← hg] at hG4 ⊢
  have lg : w.heap.size ≤ g := by omega
  have HW4 := Lib.hid (HW1.out.kept0 hk4)
  have HK4 := Lib.hid (HK1.out.andThen hk4)
  have HG4 := Lib.hid hG4
  have hbe : (be 2 n).length = 2 := be_length 2 n
  have HBE := Lib.hid hbe
  clear hown4 hk4 hG4 hs1 hg HW1 HK1 hbe
  go_wp2_with fail
  refine (wOut_any _ F1 _ _ HW4.out (by rw [List.nil_append, HBE.out]; omega)).mono ?_
  rw [List.nil_append]
  rintro e w5 ⟨v5, rfl, ho5, hk5, hf5⟩
  obtain ⟨A5, n5, c5, rfl, hr5, _⟩ := ho5.form
  obtain rfl : 2 = n5 := by have := hr5.len; rw [HBE.out] at this; exact this
  have HG5 := Lib.hid (HG4.out.kept0 hk5)
  have HK5 := Lib.hid (HK4.out.andThen hk5)
  have Hr5 := Lib.hid hr5
  clear ho5 hk5 hf5 hr5 HW4 HG4 HK4
  go_wp2_with (with_reducible change wpList _ _ _ (⟨_, Op.call _, _, _, _, _⟩ :: _) _ _; refine wpList_copy_blk rfl (.tmp 14) (.tmp 15) 22 rfl 5 Tryd.underlying22 size1ap g 0 (C + 16) (C + 16) A5 2 c5 (be 2 n) rfl rfl Hr5.out (by omega) 5 _ HG5.out 2 (by omega) (by rw [bvs_length, List.length_replicate]; omega) ?_)
  intro w6 hG6 hk6
  rw [List.take_of_length_le (by rw [HBE.out]; omega), splice_bvs] at hG6
  have HG6 := Lib.hid hG6
  have HK6 : Hid (Kept [] w w6) := Lib.hid (HK5.out.trans hk6 (fun i hi => .inr (by have := List.mem_singleton.1 hi; omega)))
  have HR6 := Lib.hid (HR.out.kept0 HK6.out)
  have e2 := fun W => run_cut_last (P := Tryd.prog) 22 5 Tryd.underlying22 size1ap g (C + 16) 2 2 rfl (by omega) W
  clear hG6 hk6 HG5 HK5 Hr5
  rcases Nat.eq_zero_or_pos n with h0 | h0
  · subst h0
    obtain rfl : bs = [] := List.eq_nil_of_length_eq_zero HL.out
    go_wp2_with (with_reducible change wpList _ _ _ (⟨_, Op.call _, _, _, _, _⟩ :: _) _ _; refine wpList_copy_nothing rfl (.tmp 18) (.tmp 19) 22 22 rfl 5 Tryd.underlying22 size1ap _ _ _ _ _ _ rfl rfl rfl ?_)
    go_ret
    refine ⟨g, rfl, ?_, lg, HK6.out⟩
    have h1 := HI.out
    have h2 : splice (splice (List.replicate (C + 16) (0 : UInt8)) 0 (be 2 0)) 2 [] = splice (List.replicate (C + 16) (0 : UInt8)) 0 (be 2 0) := splice_nil _ _
    rw [h2] at h1
    rw [← h1]
    exact HG6.out
  · go_wp2_with (with_reducible change wpList _ _ _ (⟨_, Op.call _, _, _, _, _⟩ :: _) _ _; refine wpList_copy_blk rfl (.tmp 18) (.tmp 19) 22 rfl 5 Tryd.underlying22 size1ap g 2 (C + 16 - 2) (C + 16 - 2) A n c bs rfl rfl HR6.out h0 5 _ HG6.out n (by omega) (by rw [bvs_length, length_splice _ _ _ (by rw [HBE.out, List.length_replicate]; omega), List.length_replicate]; omega) ?_)
    intro w7 hG7 hk7
    rw [List.take_of_length_le (by rw [HL.out]; omega), splice_bvs, HI.out] at hG7
    go_wp2
    go_ret
    exact ⟨g, rfl, hG7, lg, HK6.out.trans hk7 (fun i hi => .inr (by have := List.mem_singleton.1 hi; omega))⟩
end Go.Proofs.YtmjeojbdieaakaaDoor
