/-
  Contracts of layer 8 (matrix): the unit, Cauchy's matrix. No statement of the seed is proved here.
-/
import Derived.Test.YtmfbgogfefgglaaM83
import Derived.Test.YtmfbgogfefgglaaM81
import Derived.Test.YtmfbgogfefgglaaM82
import Derived.Test.YtmfbgogfefgglaaX64
namespace Go.Proofs.Ytmfbgogfefgglaa
open Go.RowKit
set_option linter.unusedVariables false

theorem unit8_no (z : Int) (w : World) (h : z < 1 ∨ 255 < z) : Calls Try.prog 25 #[.int .i64 z] w fun e w' => e = .returned (.slice none 0 0) ∧ w' = w := by
  go_enter Try.func25, Try.ntmps25
  go_wp2_with fail
  refine (allowed8_no _ _ h).mono ?_
  rintro e w ⟨rfl, rfl⟩
  go_wp2
  go_ret
  exact ⟨rfl, rfl⟩
set_option maxHeartbeats 1000000 in
theorem unit8_any (n : Nat) (z : Int) (w : World) (hz : z = (n : Int)) (h1 : 1 ≤ n) (h2 : n ≤ 255) : Calls Try.prog 25 #[.int .i64 z] w (MRet n n un w) := by
  subst hz
  go_enter Try.func25, Try.ntmps25
  go_wp2_with fail
  refine (allowed8_yes _ _ (by omega) (by omega)).mono ?_
  rintro e w ⟨rfl, rfl⟩
  go_wp2_with fail
  refine (blank8_any n n _ _ _ rfl rfl (by omega) (by omega) (by omega)).mono ?_
  rintro e w1 ⟨R, G, off, rfl, hM1, hwR, hwG, hk1⟩
  have HM1 := Lib.hid hM1
  have HK1 := Lib.hid hk1
  clear hM1 hk1
  go_wp2
  go_loopw [14] (fun v wr => ∃ r : Nat, r ≤ n ∧ v = .int .i64 (r : Int) ∧ Hid (OwM wr R G n n off (fun a b => if a < r then un a b else 0)) ∧ Hid (Kept [] w wr)) (fun v _ => n - (intOf v).toNat)
  case atStart => exact ⟨0, by omega, rfl, Lib.hid (HM1.out.congr fun a ha b hb => by rw [if_neg (by omega)]), HK1⟩
  case round =>
    clear HM1 HK1
    obtain ⟨r, hr, rfl, HM, HK⟩ := hrel
    by_cases hlt : r < n
    · have c1 := HM.out.row hlt
      have c2 := HM.out.byte hlt hlt
      have f2 := HM.out.frzG (off r + r)
      have HS6 : Hid (OwM (wr.setCell ⟨G, off r + r, none⟩ (.int .u8 1)) R G n n off (fun a b => if a < r + 1 then un a b else 0)) := Lib.hid ((HM.out.set hlt hlt 1).congr fun a ha b hb => by
        by_cases e : a = r
        · simp only [if_pos e, Nat.lt_irrefl, if_false]
          rw [if_pos (show a < r + 1 by omega)]
          unfold un
          by_cases e1 : b = r
          · rw [if_pos e1, if_pos (by omega)]
          · rw [if_neg e1, if_neg (by omega)]
        · simp only [if_neg e]
          by_cases e1 : a < r
          · rw [if_pos e1, if_pos (show a < r + 1 by omega)]
          · rw [if_neg e1, if_neg (show ¬ a < r + 1 by omega)])
      have HK7 : Hid (Kept [] w (wr.setCell ⟨G, off r + r, none⟩ (.int .u8 1))) := Lib.hid (HK.out.setCell (.inr hwG) _)
      clear HM HK
      go_wp2
      generalize wr.setCell ⟨G, off r + r, none⟩ (.int .u8 1) = w7 at *
      clear c1 c2 f2
      go_wp2
      go_roundw
      case rel => exact ⟨r + 1, by omega, by go_num, HS6, HK7⟩
      case measure => simp [intOf]; omega
    · obtain rfl : n = r := by omega
      have HF : Hid (OwM wr R G n n off un) := Lib.hid (HM.out.congr fun x hx y hy => by rw [if_pos hx])
      clear HM
      go_wp2
      go_ret
      exact ⟨R, G, off, rfl, HF.out, hwR, hwG, HK.out⟩

/-- What stands in Cauchy's matrix. -/
def cau (k i j : Nat) : GB := Fld.inv (⟨UInt8.ofNat (i + k)⟩ + ⟨UInt8.ofNat j⟩)
theorem cau_ne {k i j : Nat} (h : i + k < 256) (hj : j < k) : UInt8.ofNat (i + k) ^^^ UInt8.ofNat j ≠ 0 := by
  intro e
  have h1 : UInt8.ofNat (i + k) = UInt8.ofNat j := by
    have := congrArg (· ^^^ UInt8.ofNat j) e
    simpa [UInt8.xor_assoc] using this
  have h2 := congrArg UInt8.toNat h1
  rw [UInt8.toNat_ofNat', UInt8.toNat_ofNat', Nat.mod_eq_of_lt (by omega), Nat.mod_eq_of_lt (by omega)] at h2
  omega
theorem cauchy8_nil (y z : Int) (w : World) : Calls Try.prog 23 #[.pointer none, .int .i64 y, .int .i64 z] w fun e w' => e = .returned (.tuple #[.slice none 0 0, .int .i64 15]) ∧ w' = w := by
  go_enter Try.func23, Try.ntmps23
  go_wp2
  go_ret2
  exact ⟨rfl, rfl⟩
set_option maxHeartbeats 1000000 in
theorem cauchy8_arg (p : Nat) (y z : Int) (w : World) (h : (y < 1 ∨ 255 < y) ∨ (1 ≤ y ∧ y ≤ 255 ∧ (z < 1 ∨ 255 < z)) ∨ (1 ≤ y ∧ y ≤ 255 ∧ 1 ≤ z ∧ z ≤ 255 ∧ 256 < y + z)) :
    Calls Try.prog 23 #[.pointer (some ⟨p, 0, none⟩), .int .i64 y, .int .i64 z] w fun e w' => e = .returned (.tuple #[.slice none 0 0, .int .i64 14]) ∧ w' = w := by
  rcases h with h | ⟨h1, h2, h⟩ | ⟨h1, h2, h3, h4, h5⟩
  · go_enter Try.func23, Try.ntmps23
    go_wp2_with fail
    refine (allowed8_no _ _ h).mono ?_
    rintro e w ⟨rfl, rfl⟩
    go_wp2
    go_ret2
    exact ⟨rfl, rfl⟩
  · go_enter Try.func23, Try.ntmps23
    go_wp2_with fail
    refine (allowed8_yes _ _ h1 h2).mono ?_
    rintro e w ⟨rfl, rfl⟩
    go_wp2_with fail
    refine (allowed8_no _ _ h).mono ?_
    rintro e w ⟨rfl, rfl⟩
    go_wp2
    go_ret2
    exact ⟨rfl, rfl⟩
  · go_enter Try.func23, Try.ntmps23
    go_wp2_with fail
    refine (allowed8_yes _ _ h1 h2).mono ?_
    rintro e w ⟨rfl, rfl⟩
    go_wp2_with fail
    refine (allowed8_yes _ _ h3 h4).mono ?_
    rintro e w ⟨rfl, rfl⟩
    go_wp2
    go_ret2
    exact ⟨rfl, rfl⟩
/-- A matrix of the call's own, and an error's number. -/
def CRet (n k : Nat) (m : Nat → Nat → GB) (w : World) (e : Ending) (w' : World) : Prop := ∃ R G off, e = .returned (.tuple #[.slice (some ⟨R, 0, none⟩) n n, .int .i64 0]) ∧ OwM w' R G n k off m ∧ w.heap.size ≤ R ∧ w.heap.size ≤ G ∧ Kept [] w w'
set_option maxRecDepth 100000 in
set_option maxHeartbeats 2000000 in
theorem cauchy8_any (p n k : Nat) (y z : Int) (w : World) (hT : TabAt w p) (hy : y = (n : Int)) (hz : z = (k : Int)) (h1 : 1 ≤ n) (h2 : n ≤ 255) (h3 : 1 ≤ k) (h4 : k ≤ 255) (h5 : n + k ≤ 256) :
    Calls Try.prog 23 #[.pointer (some ⟨p, 0, none⟩), .int .i64 y, .int .i64 z] w (CRet n k (cau k) w) := by
  subst hy hz
  have HT := Lib.hid hT
  have hpw := hT.lt
  clear hT
  go_enter Try.func23, Try.ntmps23
  go_wp2_with fail
  refine (allowed8_yes _ _ (by omega) (by omega)).mono ?_
  rintro e w ⟨rfl, rfl⟩
  go_wp2_with fail
  refine (allowed8_yes _ _ (by omega) (by omega)).mono ?_
  rintro e w ⟨rfl, rfl⟩
  go_wp2_with fail
  refine (blank8_any n k _ _ _ rfl rfl (by omega) (by omega) (by omega)).mono ?_
  rintro e w1 ⟨R, G, off, rfl, hM1, hwR, hwG, hk1⟩
  have HM1 := Lib.hid hM1
  have HK1 := Lib.hid hk1
  clear hM1 hk1
  go_wp2
  go_loopw [33] (fun v wr => ∃ r : Nat, r ≤ n ∧ v = .int .i64 (r : Int) ∧ Hid (OwM wr R G n k off (fun a b => if a < r then cau k a b else 0)) ∧ Hid (Kept [] w wr)) (fun v _ => n - (intOf v).toNat)
  case atStart => exact ⟨0, by omega, rfl, Lib.hid (HM1.out.congr fun a ha b hb => by rw [if_neg (by omega)]), HK1⟩
  case round =>
    clear HM1 HK1
    obtain ⟨r, hr, rfl, HM, HK⟩ := hrel
    by_cases hlt : r < n
    · have c1 := HM.out.row hlt
      obtain ⟨w2, hw2⟩ : ∃ w2, w2 = wr := ⟨_, rfl⟩
      rw [← hw2] at HM HK c1 ⊢
      have HM2 : Hid (OwM w2 R G n k off (fun a b => if a = r then (if b < 0 then cau k r b else 0) else if a < r then cau k a b else 0)) := Lib.hid (HM.out.congr fun x hx y hy => by
        by_cases e : x = r
        · rw [if_pos e, if_neg (by omega), if_neg (by omega)]
        · rw [if_neg e])
      clear hw2 HM
      go_wp2
      go_loopw [40] (fun v wr => ∃ q : Nat, q ≤ k ∧ v = .int .i64 (q : Int) ∧ Hid (OwM wr R G n k off (fun a b => if a = r then (if b < q then cau k r b else 0) else if a < r then cau k a b else 0)) ∧ Hid (Kept [] w wr)) (fun v _ => k - (intOf v).toNat)
      case atStart => exact ⟨0, by omega, rfl, HM2, HK⟩
      case round =>
        clear HM2 HK c1
        obtain ⟨q, hq, rfl, HM, HK⟩ := hrel
        by_cases hlt2 : q < k
        · obtain ⟨t, ht⟩ : ∃ t, t = r + k := ⟨_, rfl⟩
          have ht1 : (r : Int) + (k : Int) = (t : Int) := by omega
          have ht2 : t < 256 := by omega
          obtain ⟨x8, hx8⟩ : ∃ x8, x8 = UInt8.ofNat t ^^^ UInt8.ofNat q := ⟨_, rfl⟩
          have hx0 : x8 ≠ 0 := by rw [hx8, ht]; exact cau_ne (by omega) hlt2
          have hxor : bits .xor .u8 (t : Int) (q : Int) = (x8.toNat : Int) := by
            have e1 : (t : Int) = ((UInt8.ofNat t).toNat : Int) := by rw [UInt8.toNat_ofNat', Nat.mod_eq_of_lt (by omega)]
            have e2 : (q : Int) = ((UInt8.ofNat q).toNat : Int) := by rw [UInt8.toNat_ofNat', Nat.mod_eq_of_lt (by omega)]
            rw [e1, e2, bits_xorB, hx8]
          obtain ⟨iv, hiv⟩ : ∃ iv, iv = ginv 0x1d x8 := ⟨_, rfl⟩
          have hcv : cau k r q = ⟨iv⟩ := by unfold cau; rw [hiv, hx8, ht]; rfl
          have hib := iv.toNat_lt
          have hxb := x8.toNat_lt
          have HC : Hid (Calls Try.prog 35 #[.pointer (some ⟨p, 0, none⟩), .int .u8 (x8.toNat : Int)] wr fun e w' => e = .returned (.tuple #[.int .u8 (iv.toNat : Int), .int .i64 0]) ∧ TabAt w' p ∧ Kept [] wr w') := Lib.hid (by rw [hiv]; exact inv7_v p x8 _ _ wr (HT.out.kept0 HK.out) rfl hx0 rfl)
          have Hcv := Lib.hid hcv
          clear ht hx8 hx0 hiv hcv
          go_wp2_with fail
          refine HC.out.mono ?_
          rintro e w6 ⟨rfl, _, hk6⟩
          have HM6 := HM.out.kept0 hk6
          have c6 := HM6.byte hlt hlt2
          have f6 := HM6.frzG (off r + q)
          have hs6 := HM6.set hlt hlt2 ⟨iv⟩
          have HS6 : Hid (OwM (w6.setCell ⟨G, off r + q, none⟩ (.int .u8 (iv.toNat : Int))) R G n k off (fun a b => if a = r then (if b < q + 1 then cau k r b else 0) else if a < r then cau k a b else 0)) := Lib.hid (hs6.congr fun x hx y hy => by
            by_cases e : x = r
            · simp only [if_pos e, if_true]
              by_cases e1 : y = q
              · rw [if_pos e1, if_pos (show y < q + 1 by omega), e1, Hcv.out]
              · rw [if_neg e1]
                by_cases e2 : y < q
                · rw [if_pos e2, if_pos (show y < q + 1 by omega)]
                · rw [if_neg e2, if_neg (show ¬ y < q + 1 by omega)]
            · simp only [if_neg e])
          have HK7 : Hid (Kept [] w (w6.setCell ⟨G, off r + q, none⟩ (.int .u8 (iv.toNat : Int)))) := Lib.hid ((HK.out.andThen hk6).setCell (.inr hwG) _)
          clear hs6 HM6 HM HK HC hk6
          go_wp2
          generalize w6.setCell ⟨G, off r + q, none⟩ (.int .u8 (iv.toNat : Int)) = w7 at *
          clear c6 f6 hxor ht1
          go_wp2
          go_roundw
          case rel => exact ⟨q + 1, by omega, by go_num, HS6, HK7⟩
          case measure => simp [intOf]; omega
        · obtain rfl : k = q := by omega
          have HM' : Hid (OwM wr R G n k off (fun a b => if a < r + 1 then cau k a b else 0)) := Lib.hid (HM.out.congr fun x hx y hy => by
            by_cases e : x = r
            · rw [if_pos e, if_pos hy, if_pos (by omega), e]
            · rw [if_neg e]
              by_cases e1 : x < r
              · rw [if_pos e1, if_pos (by omega)]
              · rw [if_neg e1, if_neg (by omega)])
          clear HM
          go_wp2
          go_roundw
          case rel => exact ⟨r + 1, by omega, by go_num, HM', HK⟩
          case measure => simp [intOf]; omega
    · obtain rfl : n = r := by omega
      have HF : Hid (OwM wr R G n k off (cau k)) := Lib.hid (HM.out.congr fun x hx y hy => by rw [if_pos hx])
      clear HM
      go_wp2
      go_ret2
      exact ⟨R, G, off, rfl, HF.out, hwR, hwG, HK.out⟩
end Go.Proofs.Ytmfbgogfefgglaa
