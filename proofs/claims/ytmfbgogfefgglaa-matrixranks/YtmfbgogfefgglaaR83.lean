/-
  Contract of the document's own rank. No statement of the seed is proved here.
-/
import Derived.Test.YtmfbgogfefgglaaR8c
import Derived.Test.YtmfbgogfefgglaaR7m
import Derived.Test.YtmfbgogfefgglaaM88
import Derived.Test.YtmfbgogfefgglaaR8r
import Derived.StillTailTactics
namespace Go.Proofs.Ytmfbgogfefgglaa
open Go.RowKit
set_option linter.unusedVariables false

theorem mulR8_q (x y r : UInt8) (w : World) (hr : r = gmul 0x1d x y) :
    Calls Try.prog 30 #[.int .u8 (x.toNat : Int), .int .u8 (y.toNat : Int)] w fun e w' => e = .returned (.int .u8 (r.toNat : Int)) ∧ w' = w := by rw [hr]; exact mulR7_any x y _ _ w rfl rfl
theorem invR8_q (x r : UInt8) (w : World) (hr : r = ginv 0x1d x) :
    Calls Try.prog 34 #[.int .u8 (x.toNat : Int)] w fun e w' => e = .returned (.int .u8 (r.toNat : Int)) ∧ w' = w := by rw [hr]; exact invR7_any x _ w rfl
/-- Rows t and behind not yet cleared; of row t, columns j and behind. -/
def cu (M : Nat → Nat → GB) (i a t j x y : Nat) : GB := if x < t ∨ (x = t ∧ y < j) then clr M i a x y else M x y
theorem cu_start (M : Nat → Nat → GB) (i a x y : Nat) : cu M i a (i + 1) 0 x y = M x y := by
  unfold cu clr
  by_cases h : x < i + 1
  · rw [if_pos (.inl h), if_neg (by omega)]
  · rw [if_neg (by omega)]
theorem cu_row (M : Nat → Nat → GB) (i a t j y : Nat) (hi : i < t) : cu M i a t j i y = M i y := by
  unfold cu clr
  rw [if_pos (.inl hi), if_neg (by omega)]
theorem cu_here (M : Nat → Nat → GB) (i a t j y : Nat) (hy : j ≤ y) : cu M i a t j t y = M t y := by
  unfold cu
  rw [if_neg (by omega)]
theorem cu_next (M : Nat → Nat → GB) (i a t K x y : Nat) (hy : y < K) : cu M i a t K x y = cu M i a (t + 1) 0 x y := by
  unfold cu
  by_cases h : x < t + 1
  · rw [if_pos (by omega), if_pos (.inl h)]
  · rw [if_neg (by omega), if_neg (by omega)]
theorem cu_end (M : Nat → Nat → GB) (i a n x y : Nat) (hx : x < n) : cu M i a n 0 x y = clr M i a x y := by
  unfold cu
  rw [if_pos (.inl hx)]
theorem cu_set (M : Nat → Nat → GB) (i a t j x y : Nat) : (if x = t then (if y = j then clr M i a t j else cu M i a t j t y) else cu M i a t j x y) = cu M i a t (j + 1) x y := by
  unfold cu
  by_cases h : x = t
  · subst h
    rw [if_pos rfl]
    by_cases e : y = j
    · subst e
      rw [if_pos rfl, if_pos (by omega)]
    · rw [if_neg e]
      by_cases e2 : y < j
      · rw [if_pos (by omega), if_pos (by omega)]
      · rw [if_neg (by omega), if_neg (by omega)]
  · rw [if_neg h]
    by_cases e2 : x < t
    · rw [if_pos (.inl e2), if_pos (.inl e2)]
    · rw [if_neg (by omega), if_neg (by omega)]

theorem rankR8_no (A : Option Addr) (n c : Nat) (ls : List (List UInt8)) (w : World) (hr : RdL w A n c ls) (hP : ¬ RightP ls) :
    Calls Try.prog 21 #[.slice A n c] w fun e w' => e = .returned (.int .i64 0) ∧ Kept [] w w' := by
  have HR := Lib.hid hr
  have HP := Lib.hid hP
  clear hr hP
  go_enter Try.func21, Try.ntmps21
  go_wp2_with fail
  refine (rightR8_any _ _ _ _ _ HR.out).mono ?_
  rintro e w1 ⟨q, rfl, hw1, Hq⟩
  have HK1 : Hid (Kept [] w w1) := Lib.hid (by obtain ⟨m, rfl⟩ := hw1; exact (Kept.refl [] w).drewN m)
  obtain rfl : q = false := by
    cases q with
    | false => rfl
    | true => exact absurd (Hq.out.1 rfl) HP.out
  clear hw1 Hq
  go_wp2
  go_ret
  exact ⟨rfl, HK1.out⟩

set_option maxRecDepth 100000 in
set_option maxHeartbeats 4000000 in
theorem rankR8_any (A : Option Addr) (n K c : Nat) (m : Nat → Nat → GB) (w : World) (hr : RdL w A n c (ofm n K m)) (hn1 : 1 ≤ n) (hn2 : n ≤ 255) (hk1 : 1 ≤ K) (hk2 : K ≤ 255) :
    Calls Try.prog 21 #[.slice A n c] w (RankRet n K m w) := by
  have HR := Lib.hid hr
  have hm := hr.cap
  have hm2 := hr.most
  unfold maxLen at hm2
  clear hr
  go_enter Try.func21, Try.ntmps21
  go_wp2_with fail
  refine (rightR8_any _ _ _ _ _ HR.out).mono ?_
  rintro e w1 ⟨q, rfl, hw1, Hq⟩
  have HK1 : Hid (Kept [] w w1) := Lib.hid (by obtain ⟨m, rfl⟩ := hw1; exact (Kept.refl [] w).drewN m)
  obtain rfl := Hq.out.2 (RightP.of hn1 hn2 hk1 hk2)
  clear hw1 Hq
  go_wp2_with fail
  refine (copyM8_any _ n c K m _ (HR.out.kept0 HK1.out) hn1 (by omega) hk1 (by omega)).mono ?_
  rintro e w2 ⟨b, c2, g, cp, rfl, hc1, hc2, hO, hg, hk2'⟩
  unfold maxLen at hc2
  have HO := Lib.hid hO
  have HK2 := Lib.hid (HK1.out.andThen hk2')
  have HG : Hid (∀ i, i < n → w.heap.size ≤ g i) := Lib.hid (fun i hi => Nat.le_trans HK1.out.size (hg i hi))
  clear hO hg hk2' HK1 HR
  go_wp2
  go_loopw [4, 5] (fun u v wr => ∃ (i r : Nat) (M : Nat → Nat → GB), i ≤ n ∧ r ≤ i ∧ u = .int .i64 (r : Int) ∧ v = .int .i64 (i : Int) ∧ Hid (OwR wr b n K g cp M) ∧ Hid (Rst n K i m M r) ∧ Hid (Kept [] w wr)) (fun _ v _ => n - (intOf v).toNat)
  case atStart => exact ⟨0, 0, m, by omega, by omega, rfl, rfl, HO, Lib.hid (Rst.zero _ _ _), HK2⟩
  case round =>
    clear HO HK2
    obtain ⟨i, r, M, hi, hri, rfl, rfl, HO, HS, HK⟩ := hrel
    by_cases hlt : i < n
    · obtain ⟨wz, hwz⟩ : ∃ wz, wz = wr := ⟨_, rfl⟩
      rw [← hwz] at HO HK ⊢
      clear hwz
      have ci := HO.out.row i hlt
      have q1 := (HO.out.cap i hlt).1
      have q2 := (HO.out.cap i hlt).2
      unfold maxLen at q2
      go_wp2
      go_loopw [6] (fun v wr => ∃ a : Nat, a ≤ K ∧ v = .int .i64 (a : Int) ∧ wr = wz ∧ Hid (∀ j, j < a → M i j = 0)) (fun v _ => K - (intOf v).toNat)
      case atStart => exact ⟨0, by omega, rfl, rfl, Lib.hid (fun j h => by omega)⟩
      case round =>
        obtain ⟨a, ha, rfl, rfl, HZ⟩ := hrel
        by_cases hla : a < K
        · have c2 := HO.out.byte hlt hla
          by_cases hz : M i a = 0
          · have HZ' : Hid (∀ j, j < a + 1 → M i j = 0) := Lib.hid (fun j hj => by
              by_cases e : j < a
              · exact HZ.out j e
              · obtain rfl : j = a := by omega
                exact hz)
            rw [hz] at c2
            have c3 : wr.cell? ⟨g i, a, none⟩ = some (.int .u8 0) := c2
            clear c2 hz HZ
            go_wp2
            go_roundw
            case rel => exact ⟨a + 1, by omega, by go_num, trivial, HZ'⟩
            case measure => simp [intOf]; omega
          · obtain ⟨x, hx⟩ : ∃ x, x = (M i a).v := ⟨_, rfl⟩
            rw [← hx] at c2
            have hx0 : ((x.toNat : Int) == 0) = false := by
              have : x.toNat ≠ 0 := fun e => gb_ne hz (by rw [← hx]; exact UInt8.toNat_inj.1 e)
              simp [this]
            have hxb := x.toNat_lt
            have HZ0 := Lib.hid hz
            have hae : ((a : Int) == (K : Int)) = false := by simp; omega
            clear hx hz HZ
            go_wp2
            clear c2 hx0 hae hxb
            go_loopw [7] (fun v wt => ∃ t : Nat, i < t ∧ t ≤ n ∧ v = .int .i64 (t : Int) ∧ Hid (OwR wt b n K g cp (cu M i a t 0)) ∧ Hid (Kept [] w wt)) (fun v _ => n - (intOf v).toNat)
            case atStart => exact ⟨i + 1, by omega, by omega, by go_num, Lib.hid (HO.out.congr fun x _ y _ => (cu_start M i a x y).symm), HK⟩
            case round =>
              clear HO HK ci
              obtain ⟨t, ht1, ht2, rfl, HO3, HK3⟩ := hrel
              by_cases hlt3 : t < n
              · obtain ⟨wy, hwy⟩ : ∃ wy, wy = wr := ⟨_, rfl⟩
                rw [← hwy] at HO3 HK3 ⊢
                clear hwy
                have ci := HO3.out.row i hlt
                have ct := HO3.out.row t hlt3
                have q3 := (HO3.out.cap t hlt3).1
                have q4 := (HO3.out.cap t hlt3).2
                unfold maxLen at q4
                have x1 := HO3.out.byte hlt3 hla
                have x2 := HO3.out.byte hlt hla
                rw [cu_here _ _ _ _ _ _ (by omega)] at x1
                rw [cu_row _ _ _ _ _ _ ht1] at x2
                obtain ⟨p, hp⟩ : ∃ p, p = (M t a).v := ⟨_, rfl⟩
                obtain ⟨q, hq⟩ : ∃ q, q = (M i a).v := ⟨_, rfl⟩
                obtain ⟨s, hs⟩ : ∃ s, s = ginv 0x1d q := ⟨_, rfl⟩
                obtain ⟨cv, hcv⟩ : ∃ cv, cv = gmul 0x1d p s := ⟨_, rfl⟩
                rw [← hp] at x1
                rw [← hq] at x2
                have Hs := Lib.hid hs
                have Hcv := Lib.hid hcv
                have HC : Hid ((M t a * Fld.inv (M i a)).v = cv) := Lib.hid (by rw [gb_mul, gb_inv, ← hp, ← hq, ← hs, ← hcv])
                have b1 := p.toNat_lt
                have b2 := q.toNat_lt
                have b3 := s.toNat_lt
                have b4 := cv.toNat_lt
                clear hp hq hs hcv
                go_wp2
                go_quiet (first | (go_at_call 34; refine Calls.quiet_of_same (invR8_q q s _ Hs.out)) | (go_at_call 30; refine Calls.quiet_of_same (mulR8_q p s cv _ Hcv.out)))
                go_wp2
                clear x1 x2 ci ct Hs Hcv
                go_loopw [9] (fun v wu => ∃ j : Nat, j ≤ K ∧ v = .int .i64 (j : Int) ∧ Hid (OwR wu b n K g cp (cu M i a t j)) ∧ Hid (Kept [] w wu)) (fun v _ => K - (intOf v).toNat)
                case atStart => exact ⟨0, by omega, rfl, Lib.hid (HO3.out.kept0 ((Kept.refl [] wy).drewN _)), Lib.hid (HK3.out.drewN _)⟩
                case round =>
                  clear HO3 HK3
                  obtain ⟨j, hj, rfl, HO4, HK4⟩ := hrel
                  have ci := HO4.out.row i hlt
                  have ct := HO4.out.row t hlt3
                  by_cases hlj : j < K
                  · have x1 := HO4.out.byte hlt3 hlj
                    have x2 := HO4.out.byte hlt hlj
                    rw [cu_here _ _ _ _ _ _ (by omega)] at x1
                    rw [cu_row _ _ _ _ _ _ ht1] at x2
                    obtain ⟨y, hy⟩ : ∃ y, y = (M t j).v := ⟨_, rfl⟩
                    obtain ⟨x, hx⟩ : ∃ x, x = (M i j).v := ⟨_, rfl⟩
                    obtain ⟨z, hz⟩ : ∃ z, z = gmul 0x1d cv x := ⟨_, rfl⟩
                    obtain ⟨s8, hs8⟩ : ∃ s8, s8 = y ^^^ z := ⟨_, rfl⟩
                    rw [← hy] at x1
                    rw [← hx] at x2
                    have rx : bits .xor .u8 (y.toNat : Int) (z.toNat : Int) = (s8.toNat : Int) := by rw [bits_xorB, hs8]
                    have hv : (clr M i a t j).v = s8 := by
                      unfold clr
                      rw [if_pos ht1, gb_add, gb_mul, HC.out, ← hy, ← hx, ← hz, ← hs8]
                    have HF : Hid (OwR (wr.setCell ⟨g t, j, none⟩ (.int .u8 (s8.toNat : Int))) b n K g cp (cu M i a t (j + 1))) := Lib.hid (by
                      have h1 := HO4.out.set hlt3 hlj (clr M i a t j)
                      rw [hv] at h1
                      exact h1.congr fun x _ y _ => cu_set M i a t j x y)
                    have HF2 : Hid (Kept [] w (wr.setCell ⟨g t, j, none⟩ (.int .u8 (s8.toNat : Int)))) := Lib.hid (HK4.out.setCell (.inr (HG.out t hlt3)) _)
                    have f1 := HO4.out.frz hlt3 j
                    have HM : Hid (∀ W, Calls Try.prog 30 #[.int .u8 (cv.toNat : Int), .int .u8 (x.toNat : Int)] W fun e w' => e = .returned (.int .u8 (z.toNat : Int)) ∧ w' = W) := Lib.hid (fun W => mulR8_q cv x z W hz)
                    have b5 := x.toNat_lt
                    have b6 := y.toNat_lt
                    have b7 := z.toNat_lt
                    clear hv hy hx hz hs8 HO4 HK4
                    go_wp2
                    go_still_tail 23, (by kernel_rfl)
                    still_call (HM.out _)
                    repeat still_step
                    refine wpStill_nil ?_
                    change wpList _ _ _ _ _ wr.drew
                    go_wp2
                    go_roundw
                    case rel => exact ⟨j + 1, by omega, by go_num, Lib.hid (HF.out.kept0 ((Kept.refl [] _).drewN 1)), Lib.hid (HF2.out.drewN 1)⟩
                    case measure => simp [intOf]; omega
                  · obtain rfl : K = j := by omega
                    have HO5 : Hid (OwR wr b n K g cp (cu M i a (t + 1) 0)) := Lib.hid (HO4.out.congr fun x _ y hy => cu_next M i a t K x y hy)
                    clear HO4
                    go_wp2
                    go_roundw
                    case rel => exact ⟨t + 1, by omega, by omega, by go_num, HO5, HK4⟩
                    case measure => simp [intOf]; omega
              · obtain rfl : n = t := by omega
                have HO5 : Hid (OwR wr b n K g cp (clr M i a)) := Lib.hid (HO3.out.congr fun x hx y _ => cu_end M i a n x y hx)
                have HS5 := Lib.hid (HS.out.step hlt a hla HZ0.out)
                clear HO3 HS
                go_wp2
                go_roundw
                case rel => exact ⟨i + 1, r + 1, clr M i a, by omega, by omega, by go_num, by go_num, HO5, HS5, HK3⟩
                case measure => simp [intOf]; omega
        · obtain rfl : K = a := by omega
          have HS5 := Lib.hid (HS.out.skip HZ.out)
          clear HS HZ
          go_wp2
          go_roundw
          case rel => exact ⟨i + 1, r, M, by omega, by omega, by go_num, by go_num, HO, HS5, HK⟩
          case measure => simp [intOf]; omega
    · obtain rfl : n = i := by omega
      have HRk : Hid (IsRank K n m r) := Lib.hid HS.out.rank
      clear HS HO
      go_wp2
      go_ret
      exact ⟨r, rfl, HK.out, HRk⟩
end Go.Proofs.Ytmfbgogfefgglaa
