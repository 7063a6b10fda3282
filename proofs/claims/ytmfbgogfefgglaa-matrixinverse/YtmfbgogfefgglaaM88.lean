/-
  Contracts of layer 8 (matrix): how many rows are no sums of others. No statement of the seed is proved here.
-/
import Derived.Test.YtmfbgogfefgglaaM86
import Derived.Test.YtmfbgogfefgglaaM81
import Derived.Test.YtmfbgogfefgglaaM82
import Derived.Test.YtmfbgogfefgglaaM87
namespace Go.Proofs.Ytmfbgogfefgglaa
open Go.RowKit
set_option linter.unusedVariables false

theorem rank8_nil (A : Option Addr) (n c : Nat) (w : World) : Calls Try.prog 20 #[.pointer none, .slice A n c] w fun e w' => e = .returned (.int .i64 0) ∧ w' = w := by
  go_enter Try.func20, Try.ntmps20
  go_wp2
  go_ret
  exact ⟨rfl, rfl⟩
theorem rank8_no (p : Nat) (A : Option Addr) (n c : Nat) (ls : List (List UInt8)) (w : World) (hr : RdL w A n c ls) (hP : ¬ RightP ls) :
    Calls Try.prog 20 #[.pointer (some ⟨p, 0, none⟩), .slice A n c] w fun e w' => e = .returned (.int .i64 0) ∧ w' = w := by
  have HR := Lib.hid hr
  have HP := Lib.hid hP
  clear hr hP
  go_enter Try.func20, Try.ntmps20
  go_wp2_with fail
  refine (right8_any _ _ _ ls _ HR.out).mono ?_
  rintro e w ⟨q, rfl, rfl, Hq⟩
  obtain rfl : q = false := by
    cases q with
    | false => rfl
    | true => exact absurd (Hq.out.1 rfl) HP.out
  go_wp2
  go_ret
  exact ⟨rfl, rfl⟩
def RankRet (n k : Nat) (m : Nat → Nat → GB) (w : World) (e : Ending) (w' : World) : Prop := ∃ r : Nat, e = .returned (.int .i64 (r : Int)) ∧ Kept [] w w' ∧ Hid (IsRank k n m r)
set_option maxRecDepth 100000 in
set_option maxHeartbeats 4000000 in
theorem rank8_any (p : Nat) (A : Option Addr) (n k c : Nat) (m : Nat → Nat → GB) (w : World) (hT : TabAt w p) (hr : RdL w A n c (ofm n k m)) (hn1 : 1 ≤ n) (hn2 : n ≤ 255) (hk1 : 1 ≤ k) (hk2 : k ≤ 255) :
    Calls Try.prog 20 #[.pointer (some ⟨p, 0, none⟩), .slice A n c] w (RankRet n k m w) := by
  have HR := Lib.hid hr
  have HT := Lib.hid hT
  have hpw := hT.lt
  have hm := hr.cap
  have hm2 := hr.most
  unfold maxLen at hm2
  obtain ⟨b, o, bo, of, c', rfl, hb, c1, hbo, b1, b2, hxx⟩ := hr.mrow (by omega) (i := 0) (by omega)
  unfold maxLen at b2
  clear hxx
  rw [Nat.add_zero] at c1
  have C1 := Lib.hid c1
  clear hT hr
  go_enter Try.func20, Try.ntmps20
  go_wp2_with fail
  refine (right8_any _ _ _ _ _ HR.out).mono ?_
  rintro e w ⟨q, rfl, rfl, Hq⟩
  obtain rfl := Hq.out.2 (RightP.of hn1 hn2 hk1 hk2)
  clear Hq
  go_wp2_with fail
  refine (blank8_any n k _ _ _ rfl rfl (by omega) (by omega) (by omega)).mono ?_
  rintro e w1 ⟨R, G, off, rfl, hM1, hwR, hwG, hk1⟩
  have HM1 := Lib.hid hM1
  have HK1 := Lib.hid hk1
  clear hM1 hk1 c1
  go_wp2
  go_loopw [24] (fun v wr => ∃ r : Nat, r ≤ n ∧ v = .int .i64 (r : Int) ∧ Hid (OwM wr R G n k off (fun a b => if a < r then m a b else 0)) ∧ Hid (Kept [] w wr)) (fun v _ => n - (intOf v).toNat)
  case atStart => exact ⟨0, by omega, rfl, Lib.hid (HM1.out.congr fun a ha b hb => by rw [if_neg (by omega)]), HK1⟩
  case round =>
    clear HM1 HK1
    obtain ⟨r, hr, rfl, HM, HK⟩ := hrel
    by_cases hlt : r < n
    · obtain ⟨b', o', bo', of', cr, e1, _, c2, hbo', b3, b4, hcs⟩ := (HR.out.kept0 HK.out).mrow (by omega) hlt
      injection e1 with e1; injection e1 with e1 e2; subst e1 e2
      unfold maxLen at b4
      have c1 := HM.out.row hlt
      have HX := Lib.hid hcs
      have HY : Hid (∀ j, j < k → wr.cell? ⟨G, off r + j, none⟩ = some (bcell ((fun _ => (0 : GB)) j).v)) := Lib.hid (fun j hj => by have := HM.out.bytes r hlt j hj; simp only [Nat.lt_irrefl, if_false] at this; exact this)
      clear hcs
      go_wp2_with (with_reducible change wpList _ _ _ (⟨_, Op.call _, _, _, _, _⟩ :: _) _ _; refine wpList_copy_wrt rfl (.tmp 29) (.tmp 33) 37 37 rfl 5 Try.underlying37 u8one G (off r) k k bo' of' k cr rfl rfl (by omega) HM.out.blk (fun _ => 0) (fun j => m r j) HY.out HX.out ?_)
      intro w6 hW6
      have HM6 : Hid (OwM w6 R G n k off (fun a b => if a < r + 1 then m a b else 0)) := Lib.hid ((HM.out.wrt hlt hW6).congr fun a ha b hb => by
        by_cases e : a = r
        · simp only [if_pos e]
          rw [if_pos hb, if_pos (show a < r + 1 by omega), e]
        · simp only [if_neg e]
          by_cases e1 : a < r
          · rw [if_pos e1, if_pos (by omega)]
          · rw [if_neg e1, if_neg (by omega)])
      have HK6 : Hid (Kept [] w w6) := Lib.hid (HK.out.trans hW6.kept (by simp; omega))
      clear hW6 HM HK c1 c2 HX HY
      go_wp2
      go_roundw
      case rel => exact ⟨r + 1, by omega, by go_num, HM6, HK6⟩
      case measure => simp [intOf]; omega
    · obtain rfl : n = r := by omega
      obtain ⟨w2, hw2⟩ : ∃ w2, w2 = wr := ⟨_, rfl⟩
      rw [← hw2] at HM HK ⊢
      have c2 : w2.cell? ⟨b, o, none⟩ = some (.slice (some ⟨bo, of, none⟩) k c') := (HK.out.cell (p := ⟨b, o, none⟩) hb (by simp)).trans C1.out
      clear hw2
      go_wp2_with fail
      refine (reduce8_any p R G n k k off _ _ w2 (HT.out.kept0 HK.out) (by omega) (by omega) HM.out (by omega) rfl (by omega) (by omega)).mono ?_
      rintro e w3 ⟨r, off', m', rfl, hM3, hG3, hk3⟩
      have HK3 : Hid (Kept [] w w3) := Lib.hid (HK.out.trans hk3 (by simp; omega))
      have HRk : Hid (IsRank k n m r) := Lib.hid ((hG3.rank (by omega)).congr fun a ha b hb => by rw [if_pos ha])
      clear hM3 hG3 hk3 HM HK c2
      go_wp2
      go_ret
      exact ⟨r, rfl, HK3.out, HRk⟩
end Go.Proofs.Ytmfbgogfefgglaa
