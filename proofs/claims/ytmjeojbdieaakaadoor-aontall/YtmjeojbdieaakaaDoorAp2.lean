/-
  Contracts of layer 11 (aont): whether all bytes are 0; the length that an inside tells. No statement of the seed is proved here.
-/
import Derived.Test.YtmjeojbdieaakaaDoorPb
import Derived.Test.YtmjeojbdieaakaaDoorAoM
namespace Go.Proofs.YtmjeojbdieaakaaDoor
open Go.RowKit
set_option linter.unusedVariables false

def nouB (bs : List UInt8) : Bool := bs.all (fun x => x == 0)
theorem nouB_no {bs : List UInt8} {k : Nat} {y : UInt8} (h : bs[k]? = some y) (hy : y ≠ 0) : nouB bs = false := by
  unfold nouB
  rw [List.all_eq_false]
  obtain ⟨hk, rfl⟩ := List.getElem?_eq_some_iff.1 h
  exact ⟨bs[k], List.getElem_mem _, by simpa using hy⟩
theorem nouB_step {bs : List UInt8} {k : Nat} (h : bs[k]? = some 0) (g : nouB (bs.take k) = true) : nouB (bs.take (k + 1)) = true := by
  unfold nouB at g ⊢
  rw [take_step _ _ _ h, List.all_append, g]
  rfl

set_option maxRecDepth 100000 in
set_option maxHeartbeats 2000000 in
theorem aNou_any (A : Option Addr) (n c : Nat) (bs : List UInt8) (w : World) (hr : RdB w A n c bs) :
    Calls Tryd.prog 56 #[.slice A n c] w fun e w' => e = .returned (.bool (nouB bs)) ∧ w = w' := by
  have HR := Lib.hid hr
  have b1 := hr.cap
  have b2 := hr.most
  unfold maxLen at b2
  clear hr
  go_enter Tryd.func56, Tryd.ntmps56
  go_wp2
  go_loopw [7] (fun i wr => ∃ k : Nat, k ≤ n ∧ i = .int .i64 (k : Int) ∧ w = wr ∧ Hid (nouB (bs.take k) = true)) (fun i _ => n - (intOf i).toNat)
  case atStart => exact ⟨0, by omega, rfl, rfl, Lib.hid rfl⟩
  case round =>
    obtain ⟨k, hk, rfl, rfl, H⟩ := hrel
    by_cases hlt : k < n
    · obtain ⟨b, off, y, rfl, c1, hy1, hy⟩ := HR.out.byte hlt
      by_cases h0 : y = 0
      · subst h0
        have H1 := Lib.hid (nouB_step hy1 H.out)
        clear H hy1
        go_wp2
        go_roundw
        case rel => exact ⟨k + 1, by omega, by go_num, trivial, H1⟩
        case measure => simp [intOf]; omega
      · have HF := Lib.hid (nouB_no hy1 h0)
        obtain ⟨z, hz⟩ : ∃ z : Int, (y.toNat : Int) = z := ⟨_, rfl⟩
        have hne : ¬ z = 0 := by
          intro h
          apply h0
          have : y.toNat = 0 := by omega
          exact UInt8.toNat_inj.1 (by simpa using this)
        rw [hz] at c1
        clear H hy1 hz h0 hy
        go_wp2
        go_ret
        exact ⟨by rw [HF.out] <;> rfl, rfl⟩
    · have HT : Hid (nouB bs = true) := Lib.hid (by
        have h1 := H.out
        rw [List.take_of_length_le (by have := HR.out.len; omega)] at h1
        exact h1)
      clear H
      have hk2 : k = n := by omega
      go_wp2
      go_ret
      exact ⟨by rw [HT.out] <;> rfl, rfl⟩

theorem num_two (a b : UInt8) : num [a, b] = 256 * a.toNat + b.toNat := by
  have h : num ([a] ++ [b]) = num [a] * 256 + b.toNat := num_snoc _ _
  have h1 : num ([] ++ [a]) = num [] * 256 + a.toNat := num_snoc _ _
  have h0 : num [] = 0 := rfl
  simp only [List.nil_append, List.cons_append] at h h1
  rw [h0] at h1
  omega
theorem take_two {bs : List UInt8} (h : 2 ≤ bs.length) : bs.take 2 = [bs.getD 0 0, bs.getD 1 0] := by
  match bs, h with
  | a :: b :: _, _ => rfl
/-- The number with which an inside begins. -/
@[irreducible] def lenN (bs : List UInt8) : Nat := 256 * (bs.getD 0 0).toNat + (bs.getD 1 0).toNat
theorem lenN_lt (bs : List UInt8) : lenN bs < 65536 := by
  unfold lenN
  have h1 := (bs.getD 0 0).toNat_lt
  have h2 := (bs.getD 1 0).toNat_lt
  omega

theorem size1ap : (Tryd.prog.info? 5).map (·.size) = some 1 := by kernel_rfl
set_option maxRecDepth 100000 in
set_option maxHeartbeats 2000000 in
theorem aLen_any (A : Option Addr) (n c : Nat) (bs : List UInt8) (w : World) (hr : RdB w A n c bs) (h2 : 2 ≤ n) :
    Calls Tryd.prog 37 #[.slice A n c] w fun e w' => e = .returned (.int .i64 (lenN bs)) ∧ Kept [] w w' := by
  obtain ⟨A1, hr1, q1⟩ := hr.cutTo (P := Tryd.prog) 22 5 Tryd.underlying22 size1ap 2 2 (by omega) (by omega)
  have HT := Lib.hid (take_two (bs := bs) (by have := hr.len; omega))
  have HN : Hid (tnum ((bs.take 2).drop 0) 2 = (lenN bs, 2, 0)) := Lib.hid (by
    rw [List.drop_zero, HT.out]
    unfold tnum lenN
    rw [if_neg (by omega), if_neg (by simp), show ((2 : Int).toNat) = 2 from rfl, List.take_of_length_le (by simp), num_two])
  have hlt := lenN_lt bs
  have b1 := hr.cap
  have b2 := hr.most
  unfold maxLen at b2
  generalize lenN bs = L at *
  have Hr1 := Lib.hid hr1
  clear hr hr1
  go_enter Tryd.func37, Tryd.ntmps37
  go_wp2_with fail
  refine (rNew_any A1 2 c (bs.take 2) _ Hr1.out (by omega)).mono ?_
  rintro e w1 ⟨r, rfl, hre, hk1, hf1⟩
  go_wp2_with fail
  refine (rNum_any r (bs.take 2) 0 2 _ hre).mono ?_
  rintro e w2 ⟨x, d, er, ht, rfl, hT⟩
  rw [HN.out] at ht
  obtain ⟨rfl, rfl, rfl⟩ : L = x ∧ 2 = d ∧ 0 = er := by simpa using ht
  have hK := hk1.trans hT.kept (by simp; omega)
  clear ht hT hre hk1 hf1
  go_wp2
  go_ret
  exact ⟨rfl, hK⟩
end Go.Proofs.YtmjeojbdieaakaaDoor
