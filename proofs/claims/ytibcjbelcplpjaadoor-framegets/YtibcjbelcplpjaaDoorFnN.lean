/-
  Contract of layer 13, the document's own: a frame's name. Written by a script. No statement of the seed is proved here.
-/
import Derived.Test.YtibcjbelcplpjaaDoorPd
import Derived.Test.YtibcjbelcplpjaaDoorPe
namespace Go.Proofs.YtibcjbelcplpjaaDoor
open Go.RowKit
set_option linter.unusedVariables false

theorem pureStr {P : Program} {o : Oper} {ev : Operand → Value} (src dst e : TypeId) (x : Operand) (ho : o.op = .convert src dst x) {A : Option Addr} {n c : Nat} {bs : List UInt8} (hx : ev x = .slice A n c) (hs : P.underlying src = some (.slice e)) (he : P.underlying e = some (.int .u8)) (hd : P.underlying dst = some .string) (w : World) (hr : RdB w A n c bs) :
    (execOp ev o).run P w = .ok (.value (.string ⟨bs.toArray⟩)) w := by
  unfold execOp
  simp only [ho, hx, Sem.run_bind, run_str_rdb src dst e hr hs he hd]
  rfl
theorem hexL_take {o : List UInt8} {k : Nat} {y : UInt8} (h : o[k]? = some y) : hexL (o.take (k + 1)) = hexL (o.take k) ++ hex2 y := by
  rw [take_step o k y h, hexL_append]
  simp [hexL]
theorem hexL_take_len {o : List UInt8} {k : Nat} (h : k ≤ o.length) : (hexL (o.take k)).length = 2 * k := by rw [hexL_length, List.length_take]; omega

set_option maxRecDepth 100000 in
set_option maxHeartbeats 8000000 in
theorem rNam_any (o : List UInt8) (z : Int) (w : World) (ho : o.length = 16) (h0 : -9223372036854775808 ≤ z) (h1 : z ≤ 9223372036854775807) :
    Calls Tryd.prog 19 #[.agg (bvs o).toArray, .int .i64 z] w (StrRet (nameL o z) w) := by
  obtain ⟨i0, hi, hz0, hz1, hz2⟩ := info_parts u8info
  obtain ⟨w1, hw1⟩ : ∃ w1, w1 = w.alloc (.cells (bvs o).toArray 25) := ⟨_, rfl⟩
  obtain ⟨g, hg⟩ : ∃ g, g = w.heap.size := ⟨_, rfl⟩
  have hB : Blk w1 g 25 (bvs o) := by rw [hw1, hg]; exact Blk.new w 25 (bvs o)
  have hk1 : Kept [] w w1 := by rw [hw1]; exact (Kept.refl [] w).alloc _
  have Hgl : Hid (g < w1.heap.size) := Lib.hid hB.lt
  have W1 := Lib.hid hw1
  have G0 := Lib.hid hg
  have HB := Lib.hid hB
  have HK1 := Lib.hid hk1
  have Hol := Lib.hid ho
  have HN : Hid (∀ l, l = 102 :: (hexL o ++ [46]) → nameL o z = l ++ decZ z) := Lib.hid (fun l hl => by rw [hl]; unfold nameL; simp)
  obtain ⟨X, hX⟩ : ∃ X, nameL o z = X := ⟨_, rfl⟩
  rw [hX] at HN ⊢
  clear hw1 hg hB hk1 hX ho
  go_enter Tryd.func19, Tryd.ntmps19
  go_wp2_with (first
    | (with_reducible change wpList _ _ _ (⟨_, Op.box _ _, _, _, _, _⟩ :: _) _ _; refine Great.wpList_boxTo rfl 25 _ rfl _ rfl g G0.out.symm (bvs o).toArray rfl ?_; rw [← W1.out])
    | (at_builtin; refine wpList_append_bytes rfl (.tmp 9) (.tmp 10) 26 rfl 5 i0 _ 1 Tryd.underlying26 hi hz0 hz1 hz2 rfl (.slice none 0 0) [] rfl (OwB.nil _ _) _ 1 1 [102] rfl (RdB.one _ _ _ _ rfl) (by simp [maxLen]) (by simp) ?_))
  intro v2 w2 ho2 hk2 hm2
  obtain ⟨hK2, hb2⟩ := app_new ((Kept.refl [] w1).alloc _) (by simp [Value.ownBlock]) hk2 hm2
  have hB2 := HB.out.kept0 hK2
  obtain ⟨A2, n2, c2, rfl, _, _⟩ := ho2.form
  clear hk2 hm2
  go_wp2
  go_loopw [5, 6] (fun v i wr => ∃ (k : Nat) (A3 : Option Addr) (n3 c3 : Nat), k ≤ 16 ∧ v = .slice A3 n3 c3 ∧ i = .int .i64 (k : Int) ∧ Hid (OwB 5 wr (.slice A3 n3 c3) (102 :: hexL (o.take k))) ∧ Hid (Kept [] w1 wr) ∧ Hid (∀ q, (Value.slice A3 n3 c3).ownBlock = some q → w1.heap.size ≤ q) ∧ Hid (Blk wr g 25 (bvs o))) (fun _ i _ => 16 - (intOf i).toNat)
  case atStart => exact ⟨0, A2, n2, c2, by omega, rfl, rfl, Lib.hid (by simpa [hexL] using ho2), Lib.hid hK2, Lib.hid hb2, Lib.hid hB2⟩
  case round =>
    clear ho2 hK2 hb2 hB2
    obtain ⟨k, A3, n3, c3, hk, rfl, rfl, HO3, HK3, Hb3, HB3⟩ := hrel
    by_cases hlt : k < 16
    · obtain ⟨y, hy⟩ : ∃ y, o[k]? = some y := ⟨o[k]'(by have := Hol.out; omega), List.getElem?_eq_getElem _⟩
      have HY : Hid (∀ w', Blk w' g 25 (bvs o) → w'.cell? ⟨g, k, none⟩ = some (.int .u8 (y.toNat : Int))) := Lib.hid (fun w' hb => by rw [hb.cell, bvs, List.getElem?_map, hy]; rfl)
      have HT := Lib.hid (hexL_take hy)
      have Hpl : Hid ((102 :: hexL (o.take k)).length = 2 * k + 1) := Lib.hid (by rw [List.length_cons, hexL_take_len (by have := Hol.out; omega)])
      obtain ⟨pre, hpre⟩ : ∃ pre, 102 :: hexL (o.take k) = pre := ⟨_, rfl⟩
      have HT2 : Hid (102 :: hexL (o.take (k + 1)) = pre ++ hex2 y) := Lib.hid (by rw [HT.out, ← hpre]; rfl)
      rw [hpre] at HO3 Hpl
      obtain ⟨wz, rfl⟩ : ∃ wz, wz = wr := ⟨_, rfl⟩
      clear hy HT hpre
      go_wp2
      rw [show (decide ((k : Int) < 16)) = true from decide_eq_true (by omega)]
      go_loopw [5, 7, 8] (fun v j d wr => ∃ (i : Nat) (A4 : Option Addr) (n4 c4 : Nat), i ≤ 2 ∧ v = .slice A4 n4 c4 ∧ j = .int .i64 (i : Int) ∧ Hid (OwB 5 wr (.slice A4 n4 c4) (pre ++ (hex2 y).take i)) ∧ Hid (Kept [] w1 wr) ∧ Hid (∀ q, (Value.slice A4 n4 c4).ownBlock = some q → w1.heap.size ≤ q) ∧ Hid (Blk wr g 25 (bvs o))) (fun _ j _ _ => 2 - (intOf j).toNat)
      case atStart => exact ⟨0, A3, n3, c3, by omega, rfl, rfl, Lib.hid (by simpa using HO3.out), HK3, Hb3, HB3⟩
      case round =>
        clear HO3 HK3 Hb3 HB3
        obtain ⟨i, A4, n4, c4, hi2, rfl, rfl, HO4, HK4, Hb4, HB4⟩ := hrel
        by_cases hlt2 : i < 2
        · have d1 := HY.out _ HB4.out
          have ly := y.toNat_lt
          have hl4 : (pre ++ (hex2 y).take i).length ≤ 40 := by rw [List.length_append, Hpl.out, List.length_take]; omega
          have Hl4 := Lib.hid hl4
          have hgS : g ∉ (Value.slice A4 n4 c4).ownBlock.toList := fun hm => by
            have h1 := Hb4.out g (by simpa using hm)
            have h2 := Hgl.out
            omega
          have HgS := Lib.hid hgS
          have Hst : Hid (∀ (x : Nat), (i = 0 ∧ x = y.toNat / 16) ∨ (i = 1 ∧ x = y.toNat % 16) → (pre ++ (hex2 y).take i) ++ [hexD x] = pre ++ (hex2 y).take (i + 1)) := Lib.hid (fun x hx => by
            rcases hx with ⟨rfl, rfl⟩ | ⟨rfl, rfl⟩
            · simp [hex2]
            · simp [hex2])
          obtain ⟨pq, hpq⟩ : ∃ pq, pre ++ (hex2 y).take i = pq := ⟨_, rfl⟩
          rw [hpq] at HO4 Hl4 Hst
          clear hgS hl4 hpq
          rcases (by omega : i = 0 ∨ i = 1) with rfl | rfl
          · obtain ⟨x, hx⟩ : ∃ x, x = y.toNat / 16 := ⟨_, rfl⟩
            have hdv : (y.toNat : Int) / 16 = (x : Int) := by omega
            have hx16 : x < 16 := by omega
            have HS := Lib.hid (Hst.out x (.inl ⟨rfl, hx⟩))
            clear hx Hst
            by_cases h10 : x < 10
            · have hsx : hexD x = UInt8.ofNat (48 + x) := by unfold hexD; rw [if_pos h10]
              have HD : Hid (48 + (x : Int) = ((hexD x).toNat : Int)) := Lib.hid (by rw [hexD_val hx16, if_pos h10]; omega)
              have HA : Hid (Kept [] wr (wr.alloc (.cells #[.int .u8 (48 + (x : Int))] 5))) := Lib.hid ((Kept.refl [] wr).alloc _)
              have HRd : Hid (RdB (wr.alloc (.cells #[.int .u8 (48 + (x : Int))] 5)) (some ⟨wr.heap.size, 0, none⟩) 1 1 [hexD x]) := Lib.hid (RdB.one _ _ _ _ HD.out)
              clear hsx
              go_wp2_with (at_builtin; refine wpList_append_bytes rfl (.tmp 32) (.tmp 35) 26 rfl 5 i0 _ 1 Tryd.underlying26 hi hz0 hz1 hz2 rfl (.slice A4 n4 c4) pq rfl (HO4.out.alloc _) _ 1 1 [hexD x] rfl HRd.out (by have := Hl4.out; simp only [maxLen]; omega) (by have := Hl4.out; omega) ?_)
              intro v6 w6 ho6 hk6 hm6
              obtain ⟨hK6, hb6⟩ := app_new (HK4.out.andThen HA.out) Hb4.out hk6 hm6
              have hB6 := (HB4.out.kept0 HA.out).kept hk6 HgS.out
              obtain ⟨A6, n6, c6, rfl, _, _⟩ := ho6.form
              rw [HS.out] at ho6
              have HO6 := Lib.hid ho6
              have HK6 := Lib.hid hK6
              have Hb6 := Lib.hid hb6
              have HB6 := Lib.hid hB6
              clear ho6 hk6 hm6 hK6 hb6 hB6 HO4 HK4 Hb4 HB4 HA HRd HS HD
              go_wp2
              go_roundw
              case rel => exact ⟨_, A6, n6, c6, by omega, rfl, by go_num, HO6, HK6, Hb6, HB6⟩
              case measure => simp [intOf]
            · have HD : Hid (87 + (x : Int) = ((hexD x).toNat : Int)) := Lib.hid (by rw [hexD_val hx16, if_neg h10]; omega)
              have HA : Hid (Kept [] wr (wr.alloc (.cells #[.int .u8 (87 + (x : Int))] 5))) := Lib.hid ((Kept.refl [] wr).alloc _)
              have HRd : Hid (RdB (wr.alloc (.cells #[.int .u8 (87 + (x : Int))] 5)) (some ⟨wr.heap.size, 0, none⟩) 1 1 [hexD x]) := Lib.hid (RdB.one _ _ _ _ HD.out)
              go_wp2_with (at_builtin; refine wpList_append_bytes rfl (.tmp 37) (.tmp 40) 26 rfl 5 i0 _ 1 Tryd.underlying26 hi hz0 hz1 hz2 rfl (.slice A4 n4 c4) pq rfl (HO4.out.alloc _) _ 1 1 [hexD x] rfl HRd.out (by have := Hl4.out; simp only [maxLen]; omega) (by have := Hl4.out; omega) ?_)
              intro v6 w6 ho6 hk6 hm6
              obtain ⟨hK6, hb6⟩ := app_new (HK4.out.andThen HA.out) Hb4.out hk6 hm6
              have hB6 := (HB4.out.kept0 HA.out).kept hk6 HgS.out
              obtain ⟨A6, n6, c6, rfl, _, _⟩ := ho6.form
              rw [HS.out] at ho6
              have HO6 := Lib.hid ho6
              have HK6 := Lib.hid hK6
              have Hb6 := Lib.hid hb6
              have HB6 := Lib.hid hB6
              clear ho6 hk6 hm6 hK6 hb6 hB6 HO4 HK4 Hb4 HB4 HA HRd HS HD
              go_wp2
              go_roundw
              case rel => exact ⟨_, A6, n6, c6, by omega, rfl, by go_num, HO6, HK6, Hb6, HB6⟩
              case measure => simp [intOf]
          · obtain ⟨x, hx⟩ : ∃ x, x = y.toNat % 16 := ⟨_, rfl⟩
            have hdv : (y.toNat : Int) % 16 = (x : Int) := by omega
            have hx16 : x < 16 := by omega
            have HS := Lib.hid (Hst.out x (.inr ⟨rfl, hx⟩))
            clear hx Hst
            by_cases h10 : x < 10
            · have hsx : hexD x = UInt8.ofNat (48 + x) := by unfold hexD; rw [if_pos h10]
              have HD : Hid (48 + (x : Int) = ((hexD x).toNat : Int)) := Lib.hid (by rw [hexD_val hx16, if_pos h10]; omega)
              have HA : Hid (Kept [] wr (wr.alloc (.cells #[.int .u8 (48 + (x : Int))] 5))) := Lib.hid ((Kept.refl [] wr).alloc _)
              have HRd : Hid (RdB (wr.alloc (.cells #[.int .u8 (48 + (x : Int))] 5)) (some ⟨wr.heap.size, 0, none⟩) 1 1 [hexD x]) := Lib.hid (RdB.one _ _ _ _ HD.out)
              clear hsx
              go_wp2_with (at_builtin; refine wpList_append_bytes rfl (.tmp 32) (.tmp 35) 26 rfl 5 i0 _ 1 Tryd.underlying26 hi hz0 hz1 hz2 rfl (.slice A4 n4 c4) pq rfl (HO4.out.alloc _) _ 1 1 [hexD x] rfl HRd.out (by have := Hl4.out; simp only [maxLen]; omega) (by have := Hl4.out; omega) ?_)
              intro v6 w6 ho6 hk6 hm6
              obtain ⟨hK6, hb6⟩ := app_new (HK4.out.andThen HA.out) Hb4.out hk6 hm6
              have hB6 := (HB4.out.kept0 HA.out).kept hk6 HgS.out
              obtain ⟨A6, n6, c6, rfl, _, _⟩ := ho6.form
              rw [HS.out] at ho6
              have HO6 := Lib.hid ho6
              have HK6 := Lib.hid hK6
              have Hb6 := Lib.hid hb6
              have HB6 := Lib.hid hB6
              clear ho6 hk6 hm6 hK6 hb6 hB6 HO4 HK4 Hb4 HB4 HA HRd HS HD
              go_wp2
              go_roundw
              case rel => exact ⟨_, A6, n6, c6, by omega, rfl, by go_num, HO6, HK6, Hb6, HB6⟩
              case measure => simp [intOf]
            · have HD : Hid (87 + (x : Int) = ((hexD x).toNat : Int)) := Lib.hid (by rw [hexD_val hx16, if_neg h10]; omega)
              have HA : Hid (Kept [] wr (wr.alloc (.cells #[.int .u8 (87 + (x : Int))] 5))) := Lib.hid ((Kept.refl [] wr).alloc _)
              have HRd : Hid (RdB (wr.alloc (.cells #[.int .u8 (87 + (x : Int))] 5)) (some ⟨wr.heap.size, 0, none⟩) 1 1 [hexD x]) := Lib.hid (RdB.one _ _ _ _ HD.out)
              go_wp2_with (at_builtin; refine wpList_append_bytes rfl (.tmp 37) (.tmp 40) 26 rfl 5 i0 _ 1 Tryd.underlying26 hi hz0 hz1 hz2 rfl (.slice A4 n4 c4) pq rfl (HO4.out.alloc _) _ 1 1 [hexD x] rfl HRd.out (by have := Hl4.out; simp only [maxLen]; omega) (by have := Hl4.out; omega) ?_)
              intro v6 w6 ho6 hk6 hm6
              obtain ⟨hK6, hb6⟩ := app_new (HK4.out.andThen HA.out) Hb4.out hk6 hm6
              have hB6 := (HB4.out.kept0 HA.out).kept hk6 HgS.out
              obtain ⟨A6, n6, c6, rfl, _, _⟩ := ho6.form
              rw [HS.out] at ho6
              have HO6 := Lib.hid ho6
              have HK6 := Lib.hid hK6
              have Hb6 := Lib.hid hb6
              have HB6 := Lib.hid hB6
              clear ho6 hk6 hm6 hK6 hb6 hB6 HO4 HK4 Hb4 HB4 HA HRd HS HD
              go_wp2
              go_roundw
              case rel => exact ⟨_, A6, n6, c6, by omega, rfl, by go_num, HO6, HK6, Hb6, HB6⟩
              case measure => simp [intOf]
        · obtain rfl : i = 2 := by omega
          have ho5 : OwB 5 wr (.slice A4 n4 c4) (102 :: hexL (o.take (k + 1))) := by rw [HT2.out]; simpa [hex2] using HO4.out
          have HO5 := Lib.hid ho5
          clear ho5
          go_wp2
          go_roundw
          case rel => exact ⟨k + 1, A4, n4, c4, by omega, rfl, by go_num, HO5, HK4, Hb4, HB4⟩
          case measure => simp [intOf]; omega
    · obtain rfl : k = 16 := by omega
      have HO4 : Hid (OwB 5 wr (.slice A3 n3 c3) (102 :: hexL o)) := Lib.hid (by have := HO3.out; rw [List.take_of_length_le (by have := Hol.out; omega)] at this; exact this)
      have Hl4 : Hid ((102 :: hexL o).length = 33) := Lib.hid (by rw [List.length_cons, hexL_length, Hol.out])
      have HA : Hid (Kept [] wr (wr.alloc (.cells #[.int .u8 46] 5))) := Lib.hid ((Kept.refl [] wr).alloc _)
      clear HO3
      go_wp2_with (at_builtin; refine wpList_append_bytes rfl (.tmp 42) (.tmp 43) 26 rfl 5 i0 _ 1 Tryd.underlying26 hi hz0 hz1 hz2 rfl (.slice A3 n3 c3) (102 :: hexL o) rfl (HO4.out.alloc _) _ 1 1 [46] rfl (RdB.one _ _ _ _ rfl) (by rw [Hl4.out]; simp [maxLen]) (by rw [Hl4.out]; omega) ?_)
      intro v5 w5 ho5 hk5 hm5
      obtain ⟨hK5, hb5⟩ := app_new (HK3.out.andThen HA.out) Hb3.out hk5 hm5
      obtain ⟨A5, n5, c5, rfl, hr5, _⟩ := ho5.form
      obtain ⟨L, hL⟩ : ∃ L, 102 :: (hexL o ++ [46]) = L := ⟨_, rfl⟩
      have hr6 : RdB w5 A5 n5 c5 L := by rw [← hL]; simpa using hr5
      have hNm := HN.out L hL.symm
      have Hll : Hid (L.length = 34) := Lib.hid (by rw [← hL, List.length_cons, List.length_append, hexL_length, Hol.out]; rfl)
      have HNm := Lib.hid hNm
      have SK : Hid (∀ W, Kept [] w5 W → RdB W A5 n5 c5 L) := Lib.hid (fun W hk => hr6.kept0 hk)
      have HK5 := Lib.hid (HK1.out.andThen hK5)
      clear ho5 hk5 hm5 hK5 hb5 hr5 hr6 hNm hL HO4 HA HK3 Hb3 HB3
      go_wp2
      have hHeld := SK.out _ (Kept.refl [] w5).drew
      refine wp_region_begin (fun W => RdB W A5 n5 c5 L) (by kernel_rfl) ?_
      refine held_pureD 0 45 (Value.slice A5 n5 c5) rfl rfl (by kernel_rfl) (by kernel_rfl) (by kernel_rfl) rfl (fun w hS => rfl) hHeld ?_
      simp only [Act.put, List.setIfInBounds_toArray, List.set_cons_succ, List.set_cons_zero]
      refine held_pureD 1 46 (.string ⟨L.toArray⟩) rfl rfl (by kernel_rfl) (by kernel_rfl) (by kernel_rfl) rfl (fun w hS => pureStr 26 9 5 (.tmp 45) rfl rfl Tryd.underlying26 Tryd.underlying5 Tryd.underlying9 w hS) hHeld ?_
      simp only [Act.put, List.setIfInBounds_toArray, List.set_cons_succ, List.set_cons_zero]
      refine held_pureD 2 47 (.int .i64 z) rfl rfl (by kernel_rfl) (by kernel_rfl) (by kernel_rfl) rfl (fun w hS => rfl) hHeld ?_
      simp only [Act.put, List.setIfInBounds_toArray, List.set_cons_succ, List.set_cons_zero]
      have hsz : (⟨L.toArray⟩ : ByteArray).size ≤ 100 := by rw [size_mk, Hll.out]; omega
      obtain ⟨sL, hsL⟩ : ∃ sL : ByteArray, (⟨L.toArray⟩ : ByteArray) = sL := ⟨_, rfl⟩
      have HsL : Hid (strL sL = L) := Lib.hid (by rw [← hsL]; exact strL_mk L)
      rw [hsL] at hsz ⊢
      clear hsL
      refine held_one 3 (by kernel_rfl) rfl ?_
      go_wp2_with fail
      refine (rDec_any z _ h0 h1).mono ?_
      rintro e w6 ⟨s, rfl, hs, hk6⟩
      have hK6 := (Kept.refl [] w5).drew.andThen hk6
      have hsl : s.size ≤ 100 := by
        have h2 := congrArg List.length hs
        rw [strL_length] at h2
        have h3 : (decZ z).length ≤ 21 := by
          by_cases hz : z < 0
          · rw [decZ_neg hz, List.length_cons]; have := decN_len20 (n := z.natAbs) (by omega); omega
          · rw [decZ_pos hz]; have := decN_len20 (n := z.natAbs) (by omega); omega
        omega
      obtain ⟨t, ht⟩ := str_mk X
      have hadd : ∀ v : World, (Op.stringOp .add sL s).run Tryd.prog v = .ok (.string t) v := add_rule (P := Tryd.prog) sL s t (by rw [ht, HNm.out, HsL.out, hs]) (by omega) (by omega)
      have Ht := Lib.hid ht
      clear hk6
      go_wp2
      change _ ∧ wpAnyH _ _ _ _ _ _ _ _ _
      refine ⟨SK.out _ hK6, ?_⟩
      refine held_one 4 (by kernel_rfl) rfl ?_
      go_wp2
      change _ ∧ wpAnyH _ _ _ _ _ _ _ _ _
      refine ⟨SK.out _ hK6, ?_⟩
      refine held_one 5 (by kernel_rfl) rfl ?_
      go_wp2
      change _ ∧ wpAnyH _ _ _ _ _ _ _ _ _
      refine ⟨SK.out _ hK6, ?_⟩
      refine held_done (by kernel_rfl) ?_
      go_wp2
      go_ret
      exact ⟨t, rfl, Ht.out, HK5.out.andThen hK6⟩
end Go.Proofs.YtibcjbelcplpjaaDoor
