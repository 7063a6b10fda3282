/-
  Contracts of the document's own answers for layer 9: is there such a code, are texts of one length, a code's row. No statement of the seed is proved here.
-/
import Derived.Test.YtpnpimhfakfolaaR82c
import Derived.Test.YtpnpimhfakfolaaR8c
import Derived.Test.YtpnpimhfakfolaaRsM
import Derived.Test.YtpnpimhfakfolaaR7d
import Derived.Deep.QuietTactic
namespace Go.Proofs.Ytpnpimhfakfolaa
open Go.RowKit
set_option linter.unusedVariables false

theorem rightD9_yes (y z : Int) (w : World) (h : 1 ≤ y ∧ y ≤ z ∧ z ≤ 255) : Calls Try.prog 12 #[.int .i64 y, .int .i64 z] w fun e w' => e = .returned (.bool true) ∧ w' = w := by
  obtain ⟨h1, h2, h3⟩ := h
  go_enter Try.func12, Try.ntmps12
  go_wp2
  go_ret
  first | exact ⟨rfl, rfl⟩ | exact ⟨ret_bool (decide_eq_true (by omega)), rfl⟩
theorem rightD9_no (y z : Int) (w : World) (h : y < 1 ∨ (1 ≤ y ∧ z < y) ∨ (1 ≤ y ∧ y ≤ z ∧ 255 < z)) : Calls Try.prog 12 #[.int .i64 y, .int .i64 z] w fun e w' => e = .returned (.bool false) ∧ w' = w := by
  rcases h with h | ⟨h1, h2⟩ | ⟨h1, h2, h3⟩
  all_goals
    go_enter Try.func12, Try.ntmps12
    go_wp2
    go_ret
    first | exact ⟨rfl, rfl⟩ | exact ⟨ret_bool (decide_eq_false (by omega)), rfl⟩

set_option maxHeartbeats 1000000 in
theorem alike9_any (A : Option Addr) (n c : Nat) (ls : List (List UInt8)) (w : World) (hr : RdL w A n c ls) : Calls Try.prog 29 #[.slice A n c] w fun e w' => e = .returned (.bool (one1 ls)) ∧ Kept [] w w' := by
  have HR := Lib.hid hr
  have hm := hr.cap
  have hm2 := hr.most
  unfold maxLen at hm2
  have Hl := Lib.hid hr.len
  have HN := Lib.hid (fun (k : Nat) (l : List UInt8) (h : ls[k]? = some l) => one1_no (ls := ls) h)
  have HY := Lib.hid (one1_yes (ls := ls))
  obtain ⟨N, hN⟩ : ∃ N, N = (ls.getD 0 []).length := ⟨_, rfl⟩
  obtain ⟨q, hq⟩ : ∃ q, q = one1 ls := ⟨_, rfl⟩
  rw [← hq, ← hN] at HY
  simp only [← hq, ← hN] at HN
  rw [← hq]
  have H0 : Hid (∀ l, ls[0]? = some l → l.length = N) := Lib.hid (fun l h => by rw [hN, List.getD_eq_getElem?_getD, h]; rfl)
  clear hr hN hq
  go_enter Try.func29, Try.ntmps29
  go_wp2
  go_loopw [3] (fun i wr => ∃ k : Nat, k ≤ n ∧ i = .int .i64 (k : Int) ∧ Hid (Kept [] w wr) ∧ Hid (∀ j l, j < k → ls[j]? = some l → l.length = N)) (fun i _ => n - (intOf i).toNat)
  case atStart => exact ⟨0, by omega, rfl, Lib.hid (Kept.refl _ _), Lib.hid (fun j l h => by omega)⟩
  case round =>
    obtain ⟨k, hk, rfl, HK, H⟩ := hrel
    by_cases hlt : k < n
    · have HL2 := HR.out.kept0 HK.out
      obtain ⟨b, off, Ak, nk, ck, l, rfl, hb, d1, g1, r1⟩ := HL2.at_ hlt
      obtain ⟨b', off', A0, n0, c0, l0, e0, _, d2, g2, r2⟩ := HL2.at_ (k := 0) (by omega)
      injection e0 with e0
      injection e0 with e1 e2
      subst e1 e2
      rw [Nat.add_zero] at d2
      have hn0 : n0 = N := by rw [← r2.len]; exact H0.out l0 g2
      have hnk := r1.len
      have f1 := r1.cap
      have f2 := r1.most
      unfold maxLen at f2
      have f3 := r2.cap
      have f4 := r2.most
      unfold maxLen at f4
      have z0 : 0 < n := by omega
      by_cases he : nk = N
      · have hE : ((nk : Int) != (n0 : Int)) = false := by rw [he, hn0]; simp
        have H' : Hid (∀ j l, j < k + 1 → ls[j]? = some l → l.length = N) := Lib.hid (fun j l' hj hl' => by
          by_cases h : j < k
          · exact H.out j l' h hl'
          · obtain rfl : j = k := by omega
            rw [g1] at hl'; injection hl' with hl'; subst hl'; rw [hnk]; exact he)
        clear H r1 r2 g1 g2 hnk he hn0 HL2
        go_wp2
        go_quiet (fail)
        go_wp2
        go_roundw
        case rel => exact ⟨k + 1, by omega, by go_num, Lib.hid (HK.out.drewN _), H'⟩
        case measure => simp [intOf]; omega
      · have hE : ((nk : Int) != (n0 : Int)) = true := by rw [hn0]; simp; omega
        have HF := Lib.hid (HN.out k l g1 (by rw [hnk]; exact he))
        clear H r1 r2 g1 g2 hnk he hn0 HL2
        go_wp2
        go_quiet (fail)
        go_wp2
        go_ret
        exact ⟨ret_bool HF.out.symm, HK.out.drewN _⟩
    · obtain rfl : n = k := by omega
      have HF := Lib.hid (HY.out (fun j l hj hl => H.out j l (by rw [← Hl.out]; exact hj) hl))
      clear H
      go_wp2
      go_ret
      exact ⟨ret_bool HF.out.symm, HK.out⟩

/-- Rows of the call's own, each in a block of its own, and an error's number. -/
def CauMRet (n k : Nat) (w : World) (e : Ending) (w' : World) : Prop := ∃ b c g cp, e = .returned (.tuple #[.slice (some ⟨b, 0, none⟩) n c, .int .i64 0]) ∧ n ≤ c ∧ c ≤ maxLen ∧ OwR w' b n k g cp (cau k) ∧ (∀ i, i < n → w.heap.size ≤ g i) ∧ Kept [] w w'
set_option maxRecDepth 100000 in
set_option maxHeartbeats 4000000 in
theorem cauchyM9_any (n k : Nat) (y z : Int) (w : World) (hy : y = (n : Int)) (hz : z = (k : Int)) (h1 : 1 ≤ n) (h2 : n ≤ 255) (h3 : 1 ≤ k) (h4 : k ≤ 255) (h5 : n + k ≤ 256) :
    Calls Try.prog 34 #[.int .i64 y, .int .i64 z] w (CauMRet n k w) := by
  subst hy hz
  obtain ⟨i0, hi0, hz0, hz1, hz2⟩ := info_parts u8info
  obtain ⟨i1, hj0, hy0, hy1, hy2⟩ := info_parts tBinfo8
  go_enter Try.func34, Try.ntmps34
  go_wp2
  go_loopw [6, 7] (fun u v wr => ∃ (r : Nat) (vs : List Value) (A5 : Option Addr) (n5 c5 : Nat), r ≤ n ∧ v = .int .i64 (r : Int) ∧ u = .slice A5 n5 c5 ∧ Hid (OwV 38 wr (.slice A5 n5 c5) vs) ∧ Hid (RowsO w.heap.size wr (.slice A5 n5 c5) vs k r (cau k)) ∧ Hid (Kept [] w wr) ∧ Hid (∀ g, (Value.slice A5 n5 c5).ownBlock = some g → w.heap.size ≤ g)) (fun _ v _ => n - (intOf v).toNat)
  case atStart => exact ⟨0, [], none, 0, 0, by omega, rfl, rfl, Lib.hid (OwV.nil _ _), Lib.hid (RowsO.nil _ _ _ _ _), Lib.hid (Kept.refl _ _), Lib.hid (fun g hg => by simp [Value.ownBlock] at hg)⟩
  case round =>
    obtain ⟨r, vs, A5, n5, c5, hr, rfl, rfl, HO5, HT5, HK5, Hb5⟩ := hrel
    by_cases hlt : r < n
    · obtain ⟨wz, hwz⟩ : ∃ wz, wz = wr := ⟨_, rfl⟩
      rw [← hwz] at HO5 HT5 HK5 ⊢
      clear hwz
      go_wp2
      go_loopw [8, 9] (fun u v wr => ∃ (q : Nat) (A6 : Option Addr) (n6 c6 : Nat), q ≤ k ∧ v = .int .i64 (q : Int) ∧ u = .slice A6 n6 c6 ∧ Hid (OwB 5 wr (.slice A6 n6 c6) (rm q (fun j => (cau k r j).v))) ∧ Hid (Kept [] wz wr) ∧ Hid (∀ g, (Value.slice A6 n6 c6).ownBlock = some g → wz.heap.size ≤ g)) (fun _ v _ => k - (intOf v).toNat)
      case atStart => exact ⟨0, none, 0, 0, by omega, rfl, rfl, Lib.hid (OwB.nil _ _), Lib.hid (Kept.refl _ _), Lib.hid (fun g hg => by simp [Value.ownBlock] at hg)⟩
      case round =>
        obtain ⟨q, A6, n6, c6, hq, rfl, rfl, HO6, HK6, Hb6⟩ := hrel
        by_cases hlt2 : q < k
        · obtain ⟨t, ht⟩ : ∃ t, t = r + k := ⟨_, rfl⟩
          have ht1 : (r : Int) + (k : Int) = (t : Int) := by omega
          have ht2 : t < 256 := by omega
          obtain ⟨x8, hx8⟩ : ∃ x8, x8 = UInt8.ofNat t ^^^ UInt8.ofNat q := ⟨_, rfl⟩
          have hxor : bits .xor .i64 (t : Int) (q : Int) = (x8.toNat : Int) := by rw [i64_xor8 t q ht2 (by omega), hx8]
          obtain ⟨iv, hiv⟩ : ∃ iv, iv = ginv 0x1d x8 := ⟨_, rfl⟩
          have hcv : (cau k r q).v = iv := by unfold cau; rw [hiv, hx8, ht]; rfl
          have hib := iv.toNat_lt
          have hxb := x8.toNat_lt
          have HC : Hid (Calls Try.prog 46 #[.int .u8 (x8.toNat : Int)] wr fun e w' => e = .returned (.int .u8 (iv.toNat : Int)) ∧ w' = wr) := Lib.hid (by rw [hiv]; exact invR7_any x8 _ wr rfl)
          have HS : Hid (rm q (fun j => (cau k r j).v) ++ [iv] = rm (q + 1) (fun j => (cau k r j).v)) := Lib.hid (by rw [rm_snoc, hcv])
          clear ht hx8 hiv hcv
          go_wp2_with fail
          refine HC.out.mono ?_
          rintro e w6 ⟨rfl, hw6⟩
          subst hw6
          clear hxor ht1 HC
          go_wp2_with (at_builtin; refine wpList_append_bytes rfl (.tmp 40) (.tmp 48) 38 rfl 5 i0 _ 1 Try.underlying38 hi0 hz0 hz1 hz2 rfl (.slice A6 n6 c6) (rm q (fun j => (cau k r j).v)) rfl (HO6.out.alloc _) _ 1 1 [iv] rfl (RdB.one _ 5 _ iv rfl) (by rw [rm_length]; simp only [maxLen]; omega) (by rw [rm_length]; omega) ?_)
          intro v8 w8 ho8 hk8 hm8
          obtain ⟨hK8, hb8⟩ := app_new (HK6.out.alloc _) Hb6.out hk8 hm8
          rw [HS.out] at ho8
          obtain ⟨A8, n8, c8, rfl, _, _⟩ := ho8.form
          have HO8 := Lib.hid ho8
          have HK8 := Lib.hid hK8
          have Hb8 := Lib.hid hb8
          clear ho8 hK8 hb8 hk8 hm8 HS HO6 HK6 Hb6
          go_wp2
          go_roundw
          case rel => exact ⟨q + 1, A8, n8, c8, by omega, by go_num, rfl, HO8, HK8, Hb8⟩
          case measure => simp [intOf]; omega
        · obtain rfl : k = q := by omega
          have hr6 := HO6.out.rd
          obtain rfl : k = n6 := by have := hr6.len; rw [rm_length] at this; exact this
          have HO56 := Lib.hid (HO5.out.kept0 HK6.out)
          have hT6 := (HT5.out.kept0 HK6.out).snoc HO6.out (by omega) wz HK6.out.size HK5.out.size HT5.out.lt (by obtain ⟨_, _, _, _, _, hh⟩ := HO5.out.form; exact hh) Hb6.out
          have HT6 := Lib.hid hT6
          have HV : Hid (vs.length = r) := Lib.hid HT5.out.length
          have HA6 : Hid (Kept [] w (wr.alloc (.cells #[.slice A6 k c6] 38))) := Lib.hid ((HK5.out.andThen HK6.out).alloc _)
          have HA7 : Hid (Kept [] wr (wr.alloc (.cells #[.slice A6 k c6] 38))) := Lib.hid ((Kept.refl [] wr).alloc _)
          clear hr6 hT6
          go_wp2_with (at_builtin; refine wpList_append_vals rfl (.tmp 50) (.tmp 52) 24 rfl 38 i1 _ 24 Try.underlying24 hj0 hy0 hy1 hy2 rfl (.slice A5 n5 c5) vs rfl (HO56.out.alloc _) _ 1 1 [.slice A6 k c6] rfl (RdV.one wr 38 _) (by simp [Value.oneCell']) (by rw [HV.out]; simp only [maxLen]; omega) (by rw [HV.out]; omega) ?_)
          intro v8 w8 ho8 hk8 hm8
          obtain ⟨hK8, hb8⟩ := app_new HA6.out Hb5.out hk8 hm8
          have HT8 := Lib.hid ((HT6.out.kept0 HA7.out).app hk8 hm8)
          obtain ⟨A8, n8, c8, rfl, _, _⟩ := ho8.form
          have HO8 := Lib.hid ho8
          have HK8 := Lib.hid hK8
          have Hb8 := Lib.hid hb8
          clear ho8 hK8 hb8 hk8 hm8 HA6 HA7 HT6 Hb5 HV HO56
          go_wp2
          go_roundw
          case rel => exact ⟨r + 1, _, A8, n8, c8, by omega, by go_num, rfl, HO8, HT8, HK8, Hb8⟩
          case measure => simp [intOf]; omega
    · obtain rfl : n = r := by omega
      have hT := HT5.out
      have hlen : n5 = n := by rw [← HO5.out.rd.len, hT.length]
      subst hlen
      obtain ⟨b, rfl, _⟩ := HO5.out.own (by omega)
      obtain ⟨g, cp, hO, hg⟩ := hT.own HO5.out.rd (by omega)
      have q1 := HO5.out.rd.cap
      have q2 := HO5.out.rd.most
      have HO := Lib.hid hO
      have HG := Lib.hid hg
      clear hT HT5 Hb5 HO5 hO hg
      go_wp2
      go_ret2
      exact ⟨b, c5, g, cp, rfl, q1, q2, HO.out, HG.out, HK5.out⟩

/-- One row of one's own. -/
structure Own1 (w : World) (g k cp : Nat) (y : Nat → GB) : Prop where
  cap : k ≤ cp
  most : cp ≤ maxLen
  blk : ∃ cs, Blk w g 5 cs
  bytes : ∀ j, j < k → w.cell? ⟨g, j, none⟩ = some (bcell (y j).v)
theorem Own1.congr {w : World} {g k cp : Nat} {y y' : Nat → GB} (h : Own1 w g k cp y) (e : ∀ j, j < k → y j = y' j) : Own1 w g k cp y' := ⟨h.cap, h.most, h.blk, fun j hj => by rw [← e j hj]; exact h.bytes j hj⟩
theorem Own1.kept0 {w w' : World} {g k cp : Nat} {y : Nat → GB} (h : Own1 w g k cp y) (hk : Kept [] w w') : Own1 w' g k cp y := by
  obtain ⟨cs, hB⟩ := h.blk
  exact ⟨h.cap, h.most, ⟨cs, hB.kept0 hk⟩, fun j hj => (hk.cell (p := ⟨g, j, none⟩) hB.lt (by simp)).trans (h.bytes j hj)⟩
theorem Own1.rdb {w : World} {g k cp : Nat} {y : Nat → GB} (h : Own1 w g k cp y) : RdB w (some ⟨g, 0, none⟩) k cp (rm k fun j => (y j).v) :=
  ⟨rm_length _ _, h.cap, h.most, fun _ => ⟨g, 0, rfl, fun j hj => by
    rw [rm_length] at hj
    rw [Nat.zero_add, h.bytes j hj]
    congr 2
    exact (Option.some.inj ((List.getElem?_eq_getElem (by rw [rm_length]; exact hj)).symm.trans (rm_get (f := fun j => (y j).v) hj))).symm⟩⟩
theorem OwB.own1 {w : World} {g n c k : Nat} {y : Nat → GB} (h : OwB 5 w (.slice (some ⟨g, 0, none⟩) n c) (rm k fun j => (y j).v)) (hn : n = k) (hk : 0 < k) : Own1 w g k c y := by
  subst hn
  obtain ⟨g', e, hB⟩ := h.own hk
  injection e with e; injection e with e
  subst e
  have hr := h.rd
  obtain ⟨b', o', eb, _, hc⟩ := hr.at_ hk
  injection eb with eb; injection eb with eb eo
  subst eb eo
  refine ⟨hr.cap, hr.most, hB, fun j hj => ?_⟩
  have := hc j (by rw [rm_length]; exact hj)
  rw [Nat.zero_add] at this
  rw [this]
  congr 2
  exact Option.some.inj ((List.getElem?_eq_getElem (by rw [rm_length]; exact hj)).symm.trans (rm_get (f := fun j => (y j).v) hj))
theorem OwR.own1 {w : World} {b n k : Nat} {g cp : Nat → Nat} {m : Nat → Nat → GB} (h : OwR w b n k g cp m) {i : Nat} (hi : i < n) : Own1 w (g i) k (cp i) (m i) := ⟨(h.cap i hi).1, (h.cap i hi).2, h.blk i hi, h.bytes i hi⟩
def RowRet9 (k : Nat) (y : Nat → GB) (w : World) (e : Ending) (w' : World) : Prop := ∃ g cp, e = .returned (.slice (some ⟨g, 0, none⟩) k cp) ∧ Own1 w' g k cp y ∧ w.heap.size ≤ g ∧ Kept [] w w'
theorem un_row9 (n r : Nat) (hr : r < n) : (List.replicate n (0 : UInt8)).set r 1 = rm n (fun j => (un r j : GB).v) := by
  refine rm_ext (by simp) (fun j hj => ?_)
  rw [List.getElem?_set, List.length_replicate]
  unfold un
  by_cases e : r = j
  · rw [if_pos e, if_pos hr, if_pos e]; rfl
  · rw [if_neg e, if_neg e, List.getElem?_replicate, if_pos hj]; rfl
set_option maxHeartbeats 1000000 in
theorem rowD9_any (k i : Nat) (y z : Int) (w : World) (hy : y = (k : Int)) (hz : z = (i : Int)) (h1 : 1 ≤ k) (h2 : k ≤ 255) (h3 : i < 255) : Calls Try.prog 20 #[.int .i64 y, .int .i64 z] w (RowRet9 k (rsr k i) w) := by
  subst hy hz
  obtain ⟨i0, hi0, hz0, hz1, hz2⟩ := info_parts u8info
  by_cases hik : i < k
  · go_enter Try.func20, Try.ntmps20
    go_wp2_with (with_reducible change wpList _ _ _ (⟨_, Op.makeSlice _ _ _, _, _, _, _⟩ :: _) _ _; refine wpList_make_bytes rfl (.tmp 11) (.tmp 11) 38 rfl 5 i0 Try.underlying38 hi0 hz0 hz1 hz2 _ _ _ _ k rfl rfl rfl rfl (by omega) ?_)
    intro w6 ho6 hk6
    obtain ⟨g, hg⟩ : ∃ g, g = w.heap.size := ⟨_, rfl⟩
    rw [← hg] at ho6 ⊢
    have f6 := ho6.fz i
    have c6 : w6.cell? ⟨g, i, none⟩ = some (.int .u8 0) := by rw [ho6.blk.cell, bvs_zeros, List.getElem?_replicate, if_pos hik]
    have hs6 := ho6.set i 1
    rw [un_row9 k i hik] at hs6
    have hgw : w.heap.size ≤ g := by omega
    have hk7 : Kept [] w (w6.setCell ⟨g, i, none⟩ (.int .u8 1)) := hk6.setCell (.inr hgw) _
    have hs7 : OwB 5 (w6.setCell ⟨g, i, none⟩ (.int .u8 1)) (.slice (some ⟨g, 0, none⟩) k k) (rm k fun j => (un i j : GB).v) := hs6
    have HO := Lib.hid ((hs7.own1 rfl (by omega)).congr fun j _ => (rsr_lt hik j).symm)
    have HK := Lib.hid hk7
    clear hs6 hk6 hk7 hs7 ho6 hg
    go_wp2
    generalize w6.setCell ⟨g, i, none⟩ (.int .u8 1) = w7 at *
    clear c6 f6
    go_wp2
    go_ret
    exact ⟨g, k, rfl, HO.out, hgw, HK.out⟩
  · obtain ⟨d, hd⟩ : ∃ d, i = k + d := ⟨i - k, by omega⟩
    subst hd
    have hw1 : IntKind.i64.wrap (((k + d : Nat) : Int) - (k : Int)) = (d : Int) := by rw [IntWalk.i64_in _ (by omega)]; omega
    have hR : Hid (∀ j, cau k d j = rsr k (k + d) j) := Lib.hid (fun j => by rw [rsr_ge (by omega), Nat.add_sub_cancel_left])
    clear hik
    go_enter Try.func20, Try.ntmps20
    go_wp2_with fail
    refine (cauchyM9_any (d + 1) k _ _ _ (by omega) rfl (by omega) (by omega) h1 h2 (by omega)).mono ?_
    rintro e w2 ⟨b, c2, g, cp, rfl, q1, q2, hO, hg, hk2⟩
    unfold maxLen at q2
    have c1 := hO.row d (by omega)
    have HO := Lib.hid ((hO.own1 (i := d) (by omega)).congr fun j _ => hR.out j)
    have hgd := hg d (by omega)
    have HK := Lib.hid hk2
    clear hO hg hk2
    go_wp2
    go_ret
    exact ⟨g d, cp d, rfl, HO.out, hgd, HK.out⟩
end Go.Proofs.Ytpnpimhfakfolaa
