/-
  Contract of the document's own filled text. No statement of the seed is proved here.
-/
import Derived.Test.YtmhigipljplgdaaDoorR1b
import Derived.Test.YtmhigipljplgdaaDoorPc
import Derived.Deep.QuietTactic
import Derived.BigQuiet
namespace Go.Proofs.YtmhigipljplgdaaDoor
open Go.RowKit
set_option linter.unusedVariables false

theorem fill_here (n q : Nat) (h1 : n + 1 ≤ q) (h2 : q ≤ n + fillN n) (h : q % 64 = 56) : q = n + fillN n := by unfold fillN at *; omega
theorem fill_on (n q : Nat) (h1 : n + 1 ≤ q) (h2 : q ≤ n + fillN n) (h : ¬ q % 64 = 56) : q + 1 ≤ n + fillN n := by unfold fillN at *; omega
theorem set_mid (a : List UInt8) (m : Nat) (b : UInt8) (h : 0 < m) : (a ++ List.replicate m 0).set a.length b = (a ++ [b]) ++ List.replicate (m - 1) 0 := by
  rw [List.set_append_right _ _ (Nat.le_refl _), Nat.sub_self, List.append_assoc]
  congr 1
  obtain ⟨k, rfl⟩ : ∃ k, m = k + 1 := ⟨m - 1, by omega⟩
  rw [List.replicate_succ, List.set_cons_zero, Nat.add_sub_cancel]
  rfl

set_option maxRecDepth 100000 in
set_option maxHeartbeats 2000000 in
theorem rFilled_any (A : Option Addr) (n c : Nat) (bs : List UInt8) (w : World) (hr : RdB w A n c bs) (hn : n ≤ 1000000) :
    Calls Tryd.prog 21 #[.slice A n c] w (CloneRet (padded bs) w) := by
  obtain ⟨i0, hi, hz0, hz1, hz2⟩ := info_parts u8info
  have hf := fillN_pos n
  have hl := hr.len
  have Hl := Lib.hid hl
  go_enter Tryd.func21, Tryd.ntmps21
  go_wp2
  go_loop [3] (fun i => ∃ q : Nat, n + 1 ≤ q ∧ q ≤ n + fillN n ∧ i = .int .i64 q) (fun i => n + fillN n - (intOf i).toNat)
  case atStart => exact ⟨n + 1, by omega, by omega, by show _ = Value.int .i64 ((n + 1 : Nat) : Int); congr 1; omega⟩
  case round =>
    obtain ⟨q, hq1, hq2, rfl⟩ := hrel
    by_cases h56 : q % 64 = 56
    · have hq := fill_here n q hq1 hq2 h56
      have he : ((q : Int) % 64 != 56) = false := by simp; omega
      have Hq := Lib.hid hq
      clear hq hl
      go_wp2_with (refine wpList_make_bytes rfl (.tmp 14) (.tmp 14) 53 rfl 5 i0 Tryd.underlying53 hi hz0 hz1 hz2 _ _ _ _ q rfl rfl rfl rfl (by omega) ?_)
      intro w1 hown1 hk1
      go_wp2
      go_loopw [5] (fun i wr => ∃ k : Nat, k ≤ n ∧ i = .int .i64 k ∧ OwB 5 wr (.slice (some ⟨w.heap.size, 0, none⟩) q q) (bs.take k ++ List.replicate (q - k) 0) ∧ Kept [] w wr) (fun i _ => n - (intOf i).toNat)
      case atStart => exact ⟨0, by omega, rfl, by simpa using hown1, hk1⟩
      case round =>
        obtain ⟨k, hk, rfl, ho, hK⟩ := hrel
        have hkl : (bs.take k).length = k := by rw [List.length_take]; have := Hl.out; omega
        by_cases hlt : k < n
        · obtain ⟨b, off, y, e1, c1, hy1, hy⟩ := hr.byte hlt
          subst e1
          obtain ⟨b2, off2, e2, hb2, _⟩ := hr.at_ (by omega)
          have c2 : wr.cell? ⟨b, off + k, none⟩ = some (.int .u8 (y.toNat : Int)) := (hK.cell (p := ⟨b, off + k, none⟩) (by cases e2; exact hb2) (by simp)).trans c1
          have hnew := ho.set k y
          have hse := set_mid (bs.take k) (q - k) y (by omega)
          rw [hkl] at hse
          rw [hse, ← take_step bs k y hy1, Nat.sub_sub] at hnew
          have hfz := ho.fz k
          obtain ⟨b3, off3, y3, e3, c3, _, _⟩ := ho.rd.byte (k := k) (by omega)
          simp only [Option.some.injEq, Addr.mk.injEq] at e3
          obtain ⟨rfl, rfl, _⟩ := e3
          rw [Nat.zero_add] at c3
          have hkn : Kept [] w (wr.setCell ⟨w.heap.size, k, none⟩ (.int .u8 (y.toNat : Int))) := hK.setCell (by simp) _
          unfold bcell at hnew
          clear hse hkl e2 hy1 c1
          go_wp2
          go_roundw
          case rel => exact ⟨k + 1, by omega, by go_num, hnew, hkn⟩
          case measure => simp [intOf]; omega
        · obtain rfl : n = k := by omega
          rw [List.take_of_length_le (by have := Hl.out; omega)] at ho
          have hnew := ho.set n 128
          have hse := set_mid bs (q - n) 128 (by omega)
          rw [Hl.out] at hse
          rw [hse] at hnew
          have hfz := ho.fz n
          obtain ⟨b3, off3, y3, e3, c3, _, _⟩ := ho.rd.byte (k := n) (by omega)
          simp only [Option.some.injEq, Addr.mk.injEq] at e3
          obtain ⟨rfl, rfl, _⟩ := e3
          rw [Nat.zero_add] at c3
          have hkn : Kept [] w (wr.setCell ⟨w.heap.size, n, none⟩ (.int .u8 128)) := hK.setCell (by simp) _
          have hnew2 : OwB 5 (wr.setCell ⟨w.heap.size, n, none⟩ (.int .u8 128)) (.slice (some ⟨w.heap.size, 0, none⟩) q q) (bs ++ [128] ++ List.replicate (q - n - 1) 0) := hnew
          have hpad : bs ++ [128] ++ List.replicate (q - n - 1) 0 ++ be 8 (8 * n) = padded bs := by
            unfold padded tail8
            rw [Hl.out, Hq.out, Nat.add_sub_cancel_left]
            simp
          have hpl : (bs ++ [128] ++ List.replicate (q - n - 1) 0).length = q := by
            simp only [List.length_append, List.length_singleton, List.length_replicate, Hl.out]; omega
          have Hpad := Lib.hid hpad
          have Hpl := Lib.hid hpl
          clear hse hkl hnew hown1 hpad hpl ho
          go_wp2_with fail
          refine (rfBytes_any (8 * (n : Int)) 8 _ (by omega) (by omega) (by omega)).mono ?_
          rw [show (8 * (n : Int)).toNat = 8 * n by omega]
          rintro e w5 ⟨v5, rfl, ho5, hk5, hf5⟩
          obtain ⟨A5, n5, c5, rfl, hr5, _⟩ := ho5.form
          obtain rfl : 8 = n5 := by have := hr5.len; rw [be_length] at this; exact this
          have hown5 := hnew2.kept0 hk5
          have hs5 := (hkn.andThen hk5).size
          go_wp2_with (at_builtin; refine wpList_append_bytes rfl (.tmp 33) (.tmp 38) 53 rfl 5 i0 _ 1 Tryd.underlying53 hi hz0 hz1 hz2 rfl (.slice (some ⟨w.heap.size, 0, none⟩) q q) _ rfl hown5 A5 8 c5 _ rfl hr5 (by rw [Hpl.out]; simp only [maxLen]; omega) (by rw [Hpl.out]; omega) ?_)
          intro v6 w6 ho6 hk6 hm6
          replace ho6 : OwB 5 w6 v6 (padded bs) := by rw [← Hpad.out]; simpa using ho6
          obtain ⟨A6, n6, c6, rfl, hr6, _⟩ := ho6.form
          go_wp2
          go_ret
          refine ⟨_, rfl, ho6, (hkn.andThen hk5).trans hk6 (by simp [Value.ownBlock]), fun g hg => ?_⟩
          rcases hm6 g hg with h | h
          · simp [Value.ownBlock] at h; omega
          · omega
    · have hq := fill_on n q hq1 hq2 h56
      have he : ((q : Int) % 64 != 56) = true := by simp; omega
      clear hl
      go_wp2
      go_round
      case rel => exact ⟨q + 1, by omega, by omega, by go_num⟩
      case measure => simp [intOf]; omega
end Go.Proofs.YtmhigipljplgdaaDoor
