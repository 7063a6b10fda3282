/-
  Contract of the document's own product of matrices. No statement of the seed is proved here.
-/
import Derived.Test.YtmfbgogfefgglaaR7m
import Derived.Test.YtmfbgogfefgglaaR7c
import Derived.Test.YtmfbgogfefgglaaR8r
import Derived.Test.YtmfbgogfefgglaaR8l
import Derived.Test.YtmfbgogfefgglaaM89
import Derived.Test.YtmfbgogfefgglaaWd
namespace Go.Proofs.Ytmfbgogfefgglaa
open Go.RowKit
set_option linter.unusedVariables false

theorem mulR8_w (x y r : UInt8) (zx zy : Int) (w : World) (hr : r = gmul 0x1d x y) (hx : zx = (x.toNat : Int)) (hy : zy = (y.toNat : Int)) :
    Calls Try.prog 30 #[.int .u8 zx, .int .u8 zy] w fun e w' => e = .returned (.int .u8 (r.toNat : Int)) ∧ w' = w := by rw [hr]; exact mulR7_any x y zx zy w hx hy
set_option maxHeartbeats 1000000 in
theorem mulR8_arg (A : Option Addr) (n c : Nat) (A' : Option Addr) (n' c' : Nat) (ls ms : List (List UInt8)) (w : World) (ha : RdL w A n c ls) (hb : RdL w A' n' c' ms) (h : ¬ MulP ls ms) :
    Calls Try.prog 15 #[.slice A n c, .slice A' n' c'] w (LRet2 [] 14 w) := by
  have HA := Lib.hid ha
  have HB := Lib.hid hb
  have HN := Lib.hid h
  have hm := ha.cap
  have hm2 := ha.most
  have hm3 := hb.cap
  have hm4 := hb.most
  unfold maxLen at hm2 hm4
  clear ha hb h
  go_enter Try.func15, Try.ntmps15
  go_wp2_with fail
  refine (rightR8_any _ _ _ ls _ HA.out).mono ?_
  rintro e w1 ⟨q, rfl, hw1, Hq⟩
  have HK1 : Hid (Kept [] w w1) := Lib.hid (by obtain ⟨m, rfl⟩ := hw1; exact (Kept.refl [] w).drewN m)
  clear hw1
  cases q with
  | false =>
    clear Hq
    go_wp2
    go_ret2
    exact ⟨none, 0, 0, rfl, RdL.nil _, HK1.out⟩
  | true =>
  have HP := Lib.hid (Hq.out.1 rfl)
  clear Hq
  go_wp2_with fail
  refine (rightR8_any _ _ _ ms _ (HB.out.kept0 HK1.out)).mono ?_
  rintro e w2 ⟨q, rfl, hw2, Hq⟩
  have HK2 : Hid (Kept [] w w2) := Lib.hid (by obtain ⟨m, rfl⟩ := hw2; exact HK1.out.drewN m)
  clear hw2 HK1
  cases q with
  | false =>
    clear Hq
    go_wp2
    go_ret2
    exact ⟨none, 0, 0, rfl, RdL.nil _, HK2.out⟩
  | true =>
  have HQ := Lib.hid (Hq.out.1 rfl)
  clear Hq
  obtain ⟨n1, k1, a1, a2, a3, a4, ea⟩ := HP.out.form
  obtain ⟨n2, k2, b1, b2, b3, b4, eb⟩ := HQ.out.form
  have e1 : n1 = n := by have := HA.out.len; rw [ea, ofm_length] at this; exact this
  have e2 : n2 = n' := by have := HB.out.len; rw [eb, ofm_length] at this; exact this
  subst e1 e2
  have hne : (k1 : Int) ≠ (n2 : Int) := fun e => HN.out ⟨n1, k1, k2, _, _, a1, a2, a3, a4, b3, b4, ea, by rw [show k1 = n2 by omega]; exact eb⟩
  have hA2 := HA.out.kept0 HK2.out
  rw [ea] at hA2
  obtain ⟨b, o, bo, of, cc, rfl, hbl, c1, _, d1, d2, hxx⟩ := hA2.mrow (by omega) (i := 0) (by omega)
  rw [Nat.add_zero] at c1
  unfold maxLen at d2
  clear hxx hA2 ea eb
  go_wp2
  go_ret2
  exact ⟨none, 0, 0, rfl, RdL.nil _, HK2.out⟩

set_option maxRecDepth 100000 in
set_option maxHeartbeats 4000000 in
theorem mulR8_any (A : Option Addr) (n c : Nat) (A' : Option Addr) (c' k l : Nat) (a b : Nat → Nat → GB) (w : World) (ha : RdL w A n c (ofm n k a)) (hb : RdL w A' k c' (ofm k l b)) (h1 : 1 ≤ n) (h2 : n ≤ 255) (h3 : 1 ≤ k) (h4 : k ≤ 255) (h5 : 1 ≤ l) (h6 : l ≤ 255) :
    Calls Try.prog 15 #[.slice A n c, .slice A' k c'] w (LRet2 (ofm n l (mm k a b)) 0 w) := by
  have HA := Lib.hid ha
  have HB := Lib.hid hb
  have hm := ha.cap
  have hm2 := ha.most
  have hm3 := hb.cap
  have hm4 := hb.most
  unfold maxLen at hm2 hm4
  obtain ⟨ba, oa, ba2, oa2, ca2, rfl, hba, ca, _, d1, d2, hx1⟩ := ha.mrow (by omega) (i := 0) (by omega)
  obtain ⟨bb, ob, bb2, ob2, cb2, rfl, hbb, cb, _, d3, d4, hx2⟩ := hb.mrow (by omega) (i := 0) (by omega)
  rw [Nat.add_zero] at ca cb
  unfold maxLen at d2 d4
  have CA := Lib.hid ca
  have CB := Lib.hid cb
  obtain ⟨i0, hi0, hz0, hz1, hz2⟩ := info_parts u8info
  obtain ⟨i1, hj0, hy0, hy1, hy2⟩ := info_parts tBinfo8
  obtain ⟨col, hcol⟩ : ∃ col : Nat → Nat → Nat → UInt8, col = fun i j t => (fsm t (fun u => a i u * b u j)).v := ⟨_, rfl⟩
  have HC : Hid (∀ i j, col i j 0 = 0) := Lib.hid (fun i j => by rw [hcol]; rfl)
  have HD : Hid (∀ i j t, col i j (t + 1) = col i j t ^^^ gmul 0x1d (a i t).v (b t j).v) := Lib.hid (fun i j t => by rw [hcol]; rfl)
  obtain ⟨M, hM⟩ : ∃ M, M = mm k a b := ⟨_, rfl⟩
  have HE : Hid (∀ i j, col i j k = (M i j).v) := Lib.hid (fun i j => by rw [hcol, hM]; rfl)
  rw [← hM]
  clear ha hb hx1 hx2 hM hcol ca cb
  go_enter Try.func15, Try.ntmps15
  go_wp2_with fail
  refine (rightR8_any _ _ _ _ _ HA.out).mono ?_
  rintro e w1 ⟨q, rfl, hw1, Hq⟩
  have HK1 : Hid (Kept [] w w1) := Lib.hid (by obtain ⟨m, rfl⟩ := hw1; exact (Kept.refl [] w).drewN m)
  obtain rfl := Hq.out.2 (RightP.of h1 h2 h3 h4)
  clear hw1 Hq
  go_wp2_with fail
  refine (rightR8_any _ _ _ _ _ (HB.out.kept0 HK1.out)).mono ?_
  rintro e w2 ⟨q, rfl, hw2, Hq⟩
  have HK2 : Hid (Kept [] w w2) := Lib.hid (by obtain ⟨m, rfl⟩ := hw2; exact HK1.out.drewN m)
  obtain rfl := Hq.out.2 (RightP.of h3 h4 h5 h6)
  have ca : w2.cell? ⟨ba, oa, none⟩ = some (.slice (some ⟨ba2, oa2, none⟩) k ca2) := (HK2.out.cell (p := ⟨ba, oa, none⟩) hba (by simp)).trans CA.out
  clear hw2 Hq HK1
  go_wp2
  clear ca
  go_loopw [6, 7] (fun u v wr => ∃ (r : Nat) (vs : List Value) (A5 : Option Addr) (n5 c5 : Nat), r ≤ n ∧ v = .int .i64 (r : Int) ∧ u = .slice A5 n5 c5 ∧ Hid (OwV 37 wr (.slice A5 n5 c5) vs) ∧ Hid (TxtO wr (.slice A5 n5 c5) vs (ofm r l M)) ∧ Hid (Kept [] w wr) ∧ Hid (∀ g, (Value.slice A5 n5 c5).ownBlock = some g → w.heap.size ≤ g)) (fun _ v _ => n - (intOf v).toNat)
  case atStart => exact ⟨0, [], none, 0, 0, by omega, rfl, rfl, Lib.hid (OwV.nil _ _), Lib.hid (TxtO.nil _ _), HK2, Lib.hid (fun g hg => by simp [Value.ownBlock] at hg)⟩
  case round =>
    clear HK2
    obtain ⟨r, vs, A5, n5, c5, hr, rfl, rfl, HO5, HT5, HK5, Hb5⟩ := hrel
    by_cases hlt : r < n
    · obtain ⟨wz, hwz⟩ : ∃ wz, wz = wr := ⟨_, rfl⟩
      rw [← hwz] at HO5 HT5 HK5 ⊢
      clear hwz
      go_wp2
      go_loopw [8, 9] (fun u v wr => ∃ (q : Nat) (A6 : Option Addr) (n6 c6 : Nat), q ≤ l ∧ v = .int .i64 (q : Int) ∧ u = .slice A6 n6 c6 ∧ Hid (OwB 5 wr (.slice A6 n6 c6) (rm q (fun j => (M r j).v))) ∧ Hid (Kept [] wz wr) ∧ Hid (∀ g, (Value.slice A6 n6 c6).ownBlock = some g → wz.heap.size ≤ g)) (fun _ v _ => l - (intOf v).toNat)
      case atStart => exact ⟨0, none, 0, 0, by omega, rfl, rfl, Lib.hid (OwB.nil _ _), Lib.hid (Kept.refl _ _), Lib.hid (fun g hg => by simp [Value.ownBlock] at hg)⟩
      case round =>
        obtain ⟨q, A6, n6, c6, hq, rfl, rfl, HO6, HK6, Hb6⟩ := hrel
        have cb : wr.cell? ⟨bb, ob, none⟩ = some (.slice (some ⟨bb2, ob2, none⟩) l cb2) := ((HK5.out.andThen HK6.out).cell (p := ⟨bb, ob, none⟩) hbb (by simp)).trans CB.out
        by_cases hlt2 : q < l
        · obtain ⟨wy, hwy⟩ : ∃ wy, wy = wr := ⟨_, rfl⟩
          rw [← hwy] at HO6 HK6 cb ⊢
          clear hwy
          go_wp2
          go_loopw [10, 11] (fun u v wr => ∃ t : Nat, t ≤ k ∧ v = .int .i64 (t : Int) ∧ u = .int .u8 ((col r q t).toNat : Int) ∧ Hid (Kept [] wy wr)) (fun _ v _ => k - (intOf v).toNat)
          case atStart => exact ⟨0, by omega, rfl, by rw [HC.out]; rfl, Lib.hid (Kept.refl _ _)⟩
          case round =>
            clear cb
            obtain ⟨t, ht, rfl, rfl, HKy⟩ := hrel
            by_cases hlt3 : t < k
            · have hKw := (HK5.out.andThen HK6.out).andThen HKy.out
              obtain ⟨b', o', bo, of, cr, e1, _, c2, _, b3, b4, hcs⟩ := (HA.out.kept0 hKw).mrow (by omega) hlt
              injection e1 with e1; injection e1 with e1 e2; subst e1 e2
              obtain ⟨b', o', bo', of', cr', e1, _, c3, _, b5, b6, hcs'⟩ := (HB.out.kept0 hKw).mrow (by omega) hlt3
              injection e1 with e1; injection e1 with e1 e2; subst e1 e2
              unfold maxLen at b4 b6
              have c4 : wr.cell? ⟨bo, of + t, none⟩ = some (.int .u8 ((a r t).v.toNat : Int)) := hcs t hlt3
              have c5' : wr.cell? ⟨bo', of' + q, none⟩ = some (.int .u8 ((b t q).v.toNat : Int)) := hcs' q hlt2
              obtain ⟨x, hx⟩ : ∃ x, x = (a r t).v := ⟨_, rfl⟩
              obtain ⟨y, hy⟩ : ∃ y, y = (b t q).v := ⟨_, rfl⟩
              obtain ⟨z, hz⟩ : ∃ z, z = gmul 0x1d x y := ⟨_, rfl⟩
              rw [← hx] at c4
              rw [← hy] at c5'
              have hxb := x.toNat_lt
              have hyb := y.toNat_lt
              have hzb := z.toNat_lt
              have hcl := (col r q t).toNat_lt
              obtain ⟨s2, hs2⟩ : ∃ s2, s2 = col r q (t + 1) := ⟨_, rfl⟩
              have rx : bits .xor .u8 ((col r q t).toNat : Int) (z.toNat : Int) = (s2.toNat : Int) := by rw [bits_xorB, hs2, HD.out, hz, hx, hy]
              have Hs2 : Hid (Value.int IntKind.u8 (s2.toNat : Int) = Value.int IntKind.u8 ((col r q (t + 1)).toNat : Int)) := Lib.hid (by rw [hs2])
              have Hz := Lib.hid hz
              clear hs2 hz hx hy hcs hcs' hKw
              go_wp2
              go_quiet (first | (go_at_call 30; refine Calls.quiet_of_same (mulR8_w x y z _ _ _ Hz.out rfl rfl)))
              go_wp2
              go_roundw
              case rel => exact ⟨t + 1, by omega, by go_num, Hs2.out, Lib.hid (HKy.out.drewN _)⟩
              case measure => simp [intOf]; omega
            · obtain rfl : k = t := by omega
              have HO7 := Lib.hid (HO6.out.kept0 HKy.out)
              have HK7 := Lib.hid (HK6.out.andThen HKy.out)
              have hcv := HE.out r q
              obtain ⟨s1, hs1⟩ : ∃ s1, s1 = col r q k := ⟨_, rfl⟩
              rw [← hs1] at hcv ⊢
              have HS : Hid (rm q (fun j => (M r j).v) ++ [s1] = rm (q + 1) (fun j => (M r j).v)) := Lib.hid (by rw [rm_snoc, hcv])
              have hs1b := s1.toNat_lt
              clear hs1 hcv HO6 HK6 HKy
              go_wp2_with (at_builtin; refine wpList_append_bytes rfl (.tmp 66) (.tmp 68) 37 rfl 5 i0 _ 1 Try.underlying37 hi0 hz0 hz1 hz2 rfl (.slice A6 n6 c6) (rm q (fun j => (M r j).v)) rfl (HO7.out.alloc _) _ 1 1 [s1] rfl (RdB.one _ 5 _ s1 rfl) (by rw [rm_length]; simp only [maxLen]; omega) (by rw [rm_length]; omega) ?_)
              intro v8 w8 ho8 hk8 hm8
              obtain ⟨hK8, hb8⟩ := app_new (HK7.out.alloc _) Hb6.out hk8 hm8
              rw [HS.out] at ho8
              obtain ⟨A8, n8, c8, rfl, _, _⟩ := ho8.form
              have HO8 := Lib.hid ho8
              have HK8 := Lib.hid hK8
              have Hb8 := Lib.hid hb8
              clear ho8 hK8 hb8 hk8 hm8 HS HO7 HK7 Hb6
              go_wp2
              go_roundw
              case rel => exact ⟨q + 1, A8, n8, c8, by omega, by go_num, rfl, HO8, HK8, Hb8⟩
              case measure => simp [intOf]; omega
        · obtain rfl : l = q := by omega
          have hr6 := HO6.out.rd
          have HO56 := Lib.hid (HO5.out.kept0 HK6.out)
          have hT2 : TxtO wr (.slice A5 n5 c5) [.slice A6 n6 c6] [rm l (fun j => (M r j).v)] := by
            refine TxtO.one hr6 (fun _ g hg x hx => ?_)
            subst hx
            have e1 := Hb6.out x.block rfl
            have e2 : g < wz.heap.size := by obtain ⟨_, _, _, _, _, hh⟩ := HO5.out.form; exact hh g hg
            omega
          have hT6 := (HT5.out.kept0 HK6.out).append hT2
          rw [← ofm_snoc] at hT6
          have HT6 := Lib.hid hT6
          have HV : Hid (vs.length = r) := Lib.hid (by rw [HT5.out.1, ofm_length])
          have HA6 : Hid (Kept [] w (wr.alloc (.cells #[.slice A6 n6 c6] 37))) := Lib.hid ((HK5.out.andThen HK6.out).alloc _)
          have HA7 : Hid (Kept [] wr (wr.alloc (.cells #[.slice A6 n6 c6] 37))) := Lib.hid ((Kept.refl [] wr).alloc _)
          clear hr6 hT2 hT6
          go_wp2_with (at_builtin; refine wpList_append_vals rfl (.tmp 70) (.tmp 72) 22 rfl 37 i1 _ 24 Try.underlying22 hj0 hy0 hy1 hy2 rfl (.slice A5 n5 c5) vs rfl (HO56.out.alloc _) _ 1 1 [.slice A6 n6 c6] rfl (RdV.one wr 37 _) (by simp [Value.oneCell']) (by rw [HV.out]; simp only [maxLen]; omega) (by rw [HV.out]; omega) ?_)
          intro v8 w8 ho8 hk8 hm8
          obtain ⟨hK8, hb8⟩ := app_new HA6.out Hb5.out hk8 hm8
          have HT8 := Lib.hid ((HT6.out.kept0 HA7.out).app hk8 hm8)
          obtain ⟨A8, n8, c8, rfl, _, _⟩ := ho8.form
          have HO8 := Lib.hid ho8
          have HK8 := Lib.hid hK8
          have Hb8 := Lib.hid hb8
          clear ho8 hK8 hb8 hk8 hm8 HA6 HA7 HT6 Hb5 HV HO56 cb
          go_wp2
          go_roundw
          case rel => exact ⟨r + 1, _, A8, n8, c8, by omega, by go_num, rfl, HO8, HT8, HK8, Hb8⟩
          case measure => simp [intOf]; omega
    · obtain rfl : n = r := by omega
      have HL5 : Hid (RdL wr A5 n5 c5 (ofm n l M)) := Lib.hid (RdL.of_vals HO5.out.rd HT5.out.txt)
      clear HT5 Hb5 HO5
      go_wp2
      go_ret2
      exact ⟨A5, n5, c5, rfl, HL5.out, HK5.out⟩
end Go.Proofs.Ytmfbgogfefgglaa
