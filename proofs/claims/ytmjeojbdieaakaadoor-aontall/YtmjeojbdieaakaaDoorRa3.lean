/-
  Contract of the document's own answer for layer 5: a block, by a table and a key's words. No statement of the seed is proved here.
-/
import Derived.Test.YtmjeojbdieaakaaDoorRa2
namespace Go.Proofs.YtmjeojbdieaakaaDoor
open Go.RowKit
set_option linter.unusedVariables false

theorem built16 : Tryd.prog.built 58 [] = some (zb 16).toArray := by kernel_rfl
theorem zb16_size : (Tryd.prog.info? 58).map (·.size) = some (zb 16).length := by kernel_rfl
theorem shSub_at (S : List UInt8) (c k : Nat) (hc : c < 4) (hk : k < 4) : (bvs (shSub S))[4 * c + k]? = some (.int .u8 ((sb (S.getD (4 * ((c + k) % 4) + k) 0)).toNat : Int)) := by
  rw [bvs_at (by unfold shSub; rw [tab_length]; omega)]
  unfold shSub
  rw [tab_get _ (by omega)]
  unfold shAt
  rw [show (4 * c + k) / 4 = c by omega, show (4 * c + k) % 4 = k by omega]
theorem mixAll_at (Y : List UInt8) (c k : Nat) (hc : c < 4) (hk : k < 4) : (bvs (mixAll Y))[4 * c + k]? = some (.int .u8 (bits .xor .u8 (bits .xor .u8 (bits .xor .u8 ((gmul 0x1b (Y.getD (4 * c + k) 0) 2).toNat : Int) ((gmul 0x1b (Y.getD (4 * c + (k + 1) % 4) 0) 3).toNat : Int)) ((Y.getD (4 * c + (k + 2) % 4) 0).toNat : Int)) ((Y.getD (4 * c + (k + 3) % 4) 0).toNat : Int))) := by
  rw [bvs_at (by unfold mixAll; rw [tab_length]; omega), bits_xorB, bits_xorB, bits_xorB]
  unfold mixAll
  rw [tab_get _ (by omega)]
  rw [show (4 * c + k) / 4 = c by omega, show (4 * c + k) % 4 = k by omega]
  rfl
theorem addKey_at (K S : List UInt8) (r i : Nat) (hi : i < 16) : (bvs (addKey K r S))[i]? = some (.int .u8 (bits .xor .u8 ((S.getD i 0).toNat : Int) ((K.getD (16 * r + i) 0).toNat : Int))) := by
  rw [bvs_at (by unfold addKey; rw [tab_length]; omega), bits_xorB]
  unfold addKey
  rw [tab_get _ hi]
theorem mixq (c k d c4 kd ad jd : Nat) (z : Int) (hz : z = (d : Int)) (hc : c < 4) (hk : k < 4) (hd : d < 4) (h0 : c4 = 4 * c) (e : kd = k + d) (h2 : ad = (k + d) % 4) (h5 : jd = 4 * c + (k + d) % 4) :
    IntKind.i64.wrap ((k : Int) + z) = (kd : Int) ∧ (kd : Int) % 4 = (ad : Int) ∧ Int.tmod (kd : Int) 4 = (ad : Int) ∧ IntKind.i64.wrap ((c4 : Int) + (ad : Int)) = (jd : Int) ∧ (jd : Int) < 16 ∧ jd < 16 := by
  subst hz
  refine ⟨?_, by omega, ?_, ?_, by omega, by omega⟩
  · rw [IntWalk.i64_in _ (by omega)]; omega
  · rw [Int.tmod_eq_emod_of_nonneg (by omega)]; omega
  · rw [IntWalk.i64_in _ (by omega)]; omega
theorem mixq0 (c k c4 j1 : Nat) (hc : c < 4) (hk : k < 4) (h0 : c4 = 4 * c) (h1 : j1 = 4 * c + k) :
    IntKind.i64.wrap (4 * (c : Int)) = (c4 : Int) ∧ IntKind.i64.wrap ((c4 : Int) + (k : Int)) = (j1 : Int) ∧ (j1 : Int) < 16 ∧ j1 < 16 := by
  refine ⟨?_, ?_, by omega, by omega⟩
  · rw [IntWalk.i64_in _ (by omega)]; omega
  · rw [IntWalk.i64_in _ (by omega)]; omega
theorem len_addKey (K S : List UInt8) (r : Nat) : (addKey K r S).length = 16 := tab_length _ _
theorem len_shSub (S : List UInt8) : (shSub S).length = 16 := tab_length _ _
theorem len_mixAll (S : List UInt8) : (mixAll S).length = 16 := tab_length _ _
theorem len16 {A B : List UInt8} (hA : A.length = 16) (hB : B.length = 16) : (bvs A).length = (bvs B).length := by rw [bvs_length, bvs_length, hA, hB]

set_option maxRecDepth 100000 in
set_option maxHeartbeats 16000000 in
theorem rblock5_any (gw : Nat) (K x0 : List UInt8) (w : World) (hW : Blk w gw 5 (bvs K)) (hKl : K.length = 240) (hxl : x0.length = 16) :
    Calls Tryd.prog 60 #[.agg (bvs sbox).toArray, .slice (some ⟨gw, 0, none⟩) 240 240, .agg (bvs x0).toArray] w (KeyRet (aesBlock K x0) w) := by
  have HKl := Lib.hid hKl
  have Hxl := Lib.hid hxl
  have Hsx := Lib.hid (size_of_len (P := Tryd.prog) (ty := 58) size16 hxl)
  have Hzx := Lib.hid (zb_len hxl)
  have Hal := Lib.hid (aesBlock_length K x0)
  have Hsa := Lib.hid (size_of_len (P := Tryd.prog) (ty := 58) size16 Hal.out)
  have Hza := Lib.hid (zb_len Hal.out)
  have Hae := Lib.hid (aesBlock_eq K x0)
  have HW := Lib.hid hW
  have hT0 := Blk.new w 26 (bvs sbox)
  have kT : Kept [] w (w.alloc (.cells (bvs sbox).toArray 26)) := (Kept.refl [] w).alloc _
  have sT : (w.alloc (.cells (bvs sbox).toArray 26)).heap.size = w.heap.size + 1 := by simp
  obtain ⟨w1, hw1⟩ : ∃ w1, w1 = w.alloc (.cells (bvs sbox).toArray 26) := ⟨_, rfl⟩
  rw [← hw1] at hT0 kT sT
  have hB0 := Blk.new w1 58 (bvs x0)
  have kB : Kept [] w1 (w1.alloc (.cells (bvs x0).toArray 58)) := (Kept.refl [] w1).alloc _
  have sB : (w1.alloc (.cells (bvs x0).toArray 58)).heap.size = w1.heap.size + 1 := by simp
  obtain ⟨w2, hw2⟩ : ∃ w2, w2 = w1.alloc (.cells (bvs x0).toArray 58) := ⟨_, rfl⟩
  rw [← hw2] at hB0 kB sB
  have hT := hT0.kept0 kB
  have hK2 := kT.andThen kB
  obtain ⟨t, ht⟩ : ∃ t, t = w.heap.size := ⟨_, rfl⟩
  obtain ⟨b, hb⟩ : ∃ b, b = w1.heap.size := ⟨_, rfl⟩
  rw [← ht] at hT
  rw [← hb] at hB0
  have hTb : TbAt w2 t := fun x => by rw [hT.cell, bvs, List.getElem?_map, sb_get]; rfl
  have HT := Lib.hid hTb
  have W1 := Lib.hid hw1
  have W2 := Lib.hid hw2
  have T0 := Lib.hid ht
  have B0 := Lib.hid hb
  have hwl : gw < w.heap.size := hW.lt
  have hl2 : w.heap.size ≤ w2.heap.size := by omega
  clear hT0 kT sT kB sB hw1 hw2 ht hb hT hTb hKl hxl hW
  go_enter Tryd.func60, Tryd.ntmps60
  go_wp2_with (first
    | (with_reducible change wpList _ _ _ (⟨_, Op.box _ (Operand.tmp 0), _, _, _, _⟩ :: _) _ _; refine Great.wpList_boxTo rfl 26 _ rfl _ rfl t T0.out.symm (bvs sbox).toArray rfl ?_; rw [← W1.out])
    | (with_reducible change wpList _ _ _ (⟨_, Op.box _ (Operand.tmp 2), _, _, _, _⟩ :: _) _ _; refine Great.wpList_boxTo rfl 58 _ rfl _ rfl b B0.out.symm (bvs x0).toArray rfl ?_; rw [← W2.out])
    | (with_reducible change wpList _ _ _ (⟨_, Op.alloc _, _, _, _, _⟩ :: _) _ _; refine wpList_alloc_blk rfl 58 rfl _ zero16 ?_))
  intro w3 hR3 hk3 hs3
  have hB3 := hB0.kept0 hk3
  obtain ⟨r, hr⟩ : ∃ r, r = w2.heap.size := ⟨_, rfl⟩
  rw [← hr] at hR3 ⊢
  have R0 := Lib.hid hr
  clear hr
  go_wp2_with (first
    | (with_reducible change wpList _ _ _ (⟨_, Op.load _ _, _, _, _, _⟩ :: _) _ _; refine wpList_load_blk rfl 58 (.tmp 5) rfl b rfl 58 _ _ hB3 arr16b rfl Hsx.out ?_)
    | (with_reducible change wpList _ _ _ (⟨_, Op.alloc _, _, _, _, _⟩ :: _) _ _; refine wpList_alloc_blk rfl 58 rfl _ zero16 ?_))
  intro w4 hS4 hk4 hs4
  refine wpList_store_blk rfl 58 (.tmp 7) (.tmp 17) rfl _ (bvs x0) rfl rfl 58 (zb 16) hS4 Hsx.out Hzx.out (bvs_one _) ?_
  intro w5 hS5 hk5 hs5
  obtain ⟨s, hs⟩ : ∃ s, s = w2.heap.size + 1 := ⟨_, rfl⟩
  rw [← hs] at hS5 hk5 ⊢
  have hrs := R0.out
  have hsw : w.heap.size ≤ s := by omega
  have hsw2 : w2.heap.size ≤ s := by omega
  have hrw : w.heap.size ≤ r := by omega
  have nrs : r ≠ s := by omega
  have hR5 := (hR3.kept0 hk4).kept hk5 (by simpa using nrs)
  have hK5 : Kept [] w w5 := ((hK2.andThen hk3).andThen hk4).trans hk5 (by simp; omega)
  have hK25 : Kept [] w2 w5 := (hk3.andThen hk4).trans hk5 (by simp; omega)
  have hS5' := hS5
  clear hS4 hS5 hk4 hk5 hs4 hs5 hR3 hk3 hB0 hB3 hK2 T0 B0 W1 W2 hs R0 hrs hs3
  go_wp2
  go_loopw [8] (fun v wr => ∃ k : Nat, k ≤ 16 ∧ v = .int .i64 (k : Int) ∧ Blk wr s 58 (ovr (bvs (addKey K 0 x0)) (bvs x0) k) ∧ Blk wr r 58 (zb 16) ∧ Kept [] w wr ∧ Kept [] w2 wr) (fun v _ => 16 - (intOf v).toNat)
  case atStart => exact ⟨0, by omega, rfl, by rw [ovr_zero]; exact hS5', hR5, hK5, hK25⟩
  case round =>
    clear hS5' hR5 hK5 hK25
    obtain ⟨k, hk, rfl, hS, hR, hK, hK2⟩ := hrel
    have hLen := len16 (len_addKey K x0 0) Hxl.out
    have hL : (bvs x0).length = 16 := by rw [bvs_length, Hxl.out]
    by_cases hlt : k < 16
    · have hG := HW.out.kept0 hK
      have c1 := (hS.cell k).trans ((ovr_ge hLen (Nat.le_refl k) (by omega)).trans (bvs_at (by have := Hxl.out; omega)))
      have c2 := (hG.cell k).trans (bvs_at (by have := HKl.out; omega))
      have hvn := addKey_at K x0 0 k hlt
      rw [show 16 * 0 + k = k by omega] at hvn
      generalize x0.getD k 0 = u1 at *
      generalize K.getD k 0 = u2 at *
      have f1 := hS.frz k
      have hset := ovr_set (n := k) hLen (by omega) hvn
      have hnew := hS.set k (.int .u8 (bits .xor .u8 (u1.toNat : Int) (u2.toNat : Int)))
      rw [hset] at hnew
      have hRn := hR.set_other (b := s) k (.int .u8 (bits .xor .u8 (u1.toNat : Int) (u2.toNat : Int))) nrs
      have hKn : Kept [] w (wr.setCell ⟨s, k, none⟩ (.int .u8 (bits .xor .u8 (u1.toNat : Int) (u2.toNat : Int)))) := hK.setCell (by right; exact hsw) _
      have hKn2 : Kept [] w2 (wr.setCell ⟨s, k, none⟩ (.int .u8 (bits .xor .u8 (u1.toNat : Int) (u2.toNat : Int)))) := hK2.setCell (by right; exact hsw2) _
      have z1 : (k : Int) < 16 := by omega
      have z2 : (k : Int) < 240 := by omega
      clear hLen hL hvn hset hS hR hK hK2 hG
      go_wp2
      go_still_tail 10, (by kernel_rfl)
      change wpList _ _ _ _ _ wr.drew
      go_wp2
      go_roundw
      case rel => exact ⟨k + 1, by omega, by go_num, hnew, hRn, hKn.drewN 1, hKn2.drewN 1⟩
      case measure => simp [intOf]; omega
    · obtain rfl : k = 16 := by omega
      rw [ovr_all hLen (by omega)] at hS
      clear hLen hL
      go_wp2
      rw [show ((16 : Nat) : Int) = 16 from rfl]
      go_loopw [9] (fun v wr => ∃ n rr : Nat, Hid (rr = n + 1) ∧ 1 ≤ rr ∧ rr ≤ 15 ∧ v = .int .i64 (rr : Int) ∧ Blk wr s 58 (bvs (aesRounds K n x0)) ∧ Blk wr r 58 (zb 16) ∧ Kept [] w wr ∧ Kept [] w2 wr) (fun v _ => 15 - (intOf v).toNat)
      case atStart => exact ⟨0, 1, Lib.hid rfl, by omega, by omega, rfl, hS, hR, hK, hK2⟩
      case round =>
        clear hS hR hK hK2
        obtain ⟨n, rr, Hn, hr1, hr15, rfl, hS, hR, hK, hK2⟩ := hrel
        obtain ⟨wa, rfl⟩ : ∃ wa, wa = wr := ⟨_, rfl⟩
        by_cases hlt : rr < 15
        · have Hrd : Hid (aesRounds K (n + 1) x0 = addKey K rr (if rr < 14 then mixAll (shSub (aesRounds K n x0)) else shSub (aesRounds K n x0))) := Lib.hid (by rw [Hn.out]; rfl)
          have HSl := Lib.hid (aesRounds_length K n x0)
          generalize aesRounds K n x0 = S at *
          go_wp2_with (first
            | (with_reducible change wpList _ _ _ (⟨_, Op.build _ _, _, _, _, _⟩ :: _) _ _; refine wpList_buildTo rfl 58 _ rfl _ rfl (zb 16).toArray (by simpa [Act.eval, Act.put] using built16) ?_)
            | (with_reducible change wpList _ _ _ (⟨_, Op.alloc _, _, _, _, _⟩ :: _) _ _; refine wpList_alloc_blk rfl 58 rfl _ zero16 ?_))
          intro w6 hY6 hk6 hs6
          refine wpList_store_blk rfl 58 (.tmp 10) (.tmp 36) rfl wa.heap.size (zb 16) rfl rfl 58 (zb 16) hY6 zb16_size rfl (bvs_one _) ?_
          intro w7 hY7 hk7 hs7
          obtain ⟨y, hy⟩ : ∃ y, y = wa.heap.size := ⟨_, rfl⟩
          have hsl := hS.lt
          have hrl := hR.lt
          have hS7 := (hS.kept0 hk6).kept hk7 (by simp; omega)
          have hR7 := (hR.kept0 hk6).kept hk7 (by simp; omega)
          have hyw : w.heap.size ≤ y := by have := hK.size; omega
          have hyw2 : w2.heap.size ≤ y := by have := hK2.size; omega
          have hK7 : Kept [] w w7 := (hK.andThen hk6).trans hk7 (by simp; omega)
          have hK27 : Kept [] w2 w7 := (hK2.andThen hk6).trans hk7 (by simp; omega)
          rw [← hy] at hY7 ⊢
          have nsy : s ≠ y := by omega
          have nry : r ≠ y := by omega
          clear hY6 hk6 hs6 hk7 hs7 hsl hrl hS hR hK hK2 hy
          go_wp2
          go_loopw [11] (fun v wr => ∃ c : Nat, c ≤ 4 ∧ v = .int .i64 (c : Int) ∧ Blk wr y 58 (ovr (bvs (shSub S)) (zb 16) (4 * c)) ∧ Blk wr s 58 (bvs S) ∧ Blk wr r 58 (zb 16) ∧ Kept [] w wr ∧ Kept [] w2 wr) (fun v _ => 4 - (intOf v).toNat)
          case atStart => exact ⟨0, by omega, rfl, by rw [show 4 * 0 = 0 by rfl, ovr_zero]; exact hY7, hS7, hR7, hK7, hK27⟩
          case round =>
            clear hY7 hS7 hR7 hK7 hK27
            obtain ⟨c, hc, rfl, hY, hS, hR, hK, hK2⟩ := hrel
            obtain ⟨wc, rfl⟩ : ∃ wc, wc = wr := ⟨_, rfl⟩
            have hLen : (bvs (shSub S)).length = (zb 16).length := by rw [bvs_length, len_shSub, zb_length]
            by_cases hc4 : c < 4
            · clear hLen
              go_wp2
              go_loopw [12] (fun v wr => ∃ k : Nat, k ≤ 4 ∧ v = .int .i64 (k : Int) ∧ Blk wr y 58 (ovr (bvs (shSub S)) (zb 16) (4 * c + k)) ∧ Blk wr s 58 (bvs S) ∧ Blk wr r 58 (zb 16) ∧ Kept [] w wr ∧ Kept [] w2 wr) (fun v _ => 4 - (intOf v).toNat)
              case atStart => exact ⟨0, by omega, rfl, hY, hS, hR, hK, hK2⟩
              case round =>
                clear hY hS hR hK hK2
                obtain ⟨k, hk, rfl, hY, hS, hR, hK, hK2⟩ := hrel
                by_cases hk4 : k < 4
                · have hLen : (bvs (shSub S)).length = (zb 16).length := by rw [bvs_length, len_shSub, zb_length]
                  obtain ⟨j1, h1⟩ : ∃ j : Nat, j = 4 * c + k := ⟨_, rfl⟩
                  obtain ⟨j2, h2⟩ : ∃ j : Nat, j = (c + k) % 4 := ⟨_, rfl⟩
                  obtain ⟨j3, h3⟩ : ∃ j : Nat, j = 4 * ((c + k) % 4) + k := ⟨_, rfl⟩
                  have hvn := shSub_at S c k hc4 hk4
                  rw [← h1, ← h3] at hvn
                  rw [← h1] at hY
                  have c1 := (hS.cell j3).trans (bvs_at (by have := HSl.out; omega))
                  generalize S.getD j3 0 = u1 at *
                  have tt := HT.out.kept0 hK2 u1
                  have ub := u1.toNat_lt
                  have hol := ovr_length (n := j1) hLen
                  rw [zb_length] at hol
                  have cc := hY.cellD j1 (by omega)
                  generalize (ovr (bvs (shSub S)) (zb 16) j1)[j1]'(by omega) = uu at cc
                  have f1 := hY.frz j1
                  have hset := ovr_set (n := j1) hLen (by rw [zb_length]; omega) hvn
                  have hnew := hY.set j1 (.int .u8 ((sb u1).toNat : Int))
                  rw [hset, show j1 + 1 = 4 * c + (k + 1) by omega] at hnew
                  have hSn := hS.set_other (b := y) j1 (.int .u8 ((sb u1).toNat : Int)) nsy
                  have hRn := hR.set_other (b := y) j1 (.int .u8 ((sb u1).toNat : Int)) nry
                  have hKn : Kept [] w (wr.setCell ⟨y, j1, none⟩ (.int .u8 ((sb u1).toNat : Int))) := hK.setCell (by right; exact hyw) _
                  have hKn2 : Kept [] w2 (wr.setCell ⟨y, j1, none⟩ (.int .u8 ((sb u1).toNat : Int))) := hK2.setCell (by right; exact hyw2) _
                  have q1 : 4 * (c : Int) + (k : Int) = (j1 : Int) := by omega
                  have q2 : ((c : Int) + (k : Int)) % 4 = (j2 : Int) := by omega
                  have q3 : 4 * (j2 : Int) + (k : Int) = (j3 : Int) := by omega
                  have z1 : (j1 : Int) < 16 := by omega
                  have z2 : (j2 : Int) < 4 := by omega
                  have z3 : (j3 : Int) < 16 := by omega
                  have zu : (u1.toNat : Int) < 256 := by omega
                  clear hLen hol hvn hset hY hS hR hK hK2 h1 h2 h3
                  go_wp2
                  go_roundw
                  case rel => exact ⟨k + 1, by omega, by go_num, hnew, hSn, hRn, hKn, hKn2⟩
                  case measure => simp [intOf]; omega
                · obtain rfl : k = 4 := by omega
                  rw [show 4 * c + 4 = 4 * (c + 1) by omega] at hY
                  go_wp2
                  go_roundw
                  case rel => exact ⟨c + 1, by omega, by go_num, hY, hS, hR, hK, hK2⟩
                  case measure => simp [intOf]; omega
            · obtain rfl : c = 4 := by omega
              rw [ovr_all hLen (by rw [zb_length]; omega)] at hY
              have HYl := Lib.hid (len_shSub S)
              clear hLen
              generalize shSub S = Y at *
              rw [show ((4 : Nat) : Int) = 4 from rfl]
              by_cases h14 : rr < 14
              · have Hr2 : Hid (aesRounds K (n + 1) x0 = addKey K rr (mixAll Y)) := by have := Hrd.out; rw [if_pos h14] at this; exact this
                clear Hrd
                go_wp2_with (first
                  | (with_reducible change wpList _ _ _ (⟨_, Op.build _ _, _, _, _, _⟩ :: _) _ _; refine wpList_buildTo rfl 58 _ rfl _ rfl (zb 16).toArray (by simpa [Act.eval, Act.put] using built16) ?_)
                  | (with_reducible change wpList _ _ _ (⟨_, Op.alloc _, _, _, _, _⟩ :: _) _ _; refine wpList_alloc_blk rfl 58 rfl _ zero16 ?_))
                intro w8 hZ8 hk8 hs8
                refine wpList_store_blk rfl 58 (.tmp 13) (.tmp 63) rfl wc.heap.size (zb 16) rfl rfl 58 (zb 16) hZ8 zb16_size rfl (bvs_one _) ?_
                intro w9 hZ9 hk9 hs9
                obtain ⟨z, hz⟩ : ∃ z, z = wc.heap.size := ⟨_, rfl⟩
                have hsl := hS.lt
                have hrl := hR.lt
                have hyl := hY.lt
                have hS9 := (hS.kept0 hk8).kept hk9 (by simp; omega)
                have hR9 := (hR.kept0 hk8).kept hk9 (by simp; omega)
                have hY9 := (hY.kept0 hk8).kept hk9 (by simp; omega)
                have hzw : w.heap.size ≤ z := by have := hK.size; omega
                have hzw2 : w2.heap.size ≤ z := by have := hK2.size; omega
                have hK9 : Kept [] w w9 := (hK.andThen hk8).trans hk9 (by simp; omega)
                have hK29 : Kept [] w2 w9 := (hK2.andThen hk8).trans hk9 (by simp; omega)
                rw [← hz] at hZ9 ⊢
                have nsz : s ≠ z := by omega
                have nrz : r ≠ z := by omega
                have nyz : y ≠ z := by omega
                clear hZ8 hk8 hs8 hk9 hs9 hsl hrl hyl hS hR hY hK hK2 hz
                go_wp2
                try rw [show (decide ((rr : Int) < 14)) = true from decide_eq_true (by omega)]
                go_loopw [14] (fun v wr => ∃ c : Nat, c ≤ 4 ∧ v = .int .i64 (c : Int) ∧ Blk wr z 58 (ovr (bvs (mixAll Y)) (zb 16) (4 * c)) ∧ Blk wr y 58 (bvs Y) ∧ Blk wr s 58 (bvs S) ∧ Blk wr r 58 (zb 16) ∧ Kept [] w wr ∧ Kept [] w2 wr) (fun v _ => 4 - (intOf v).toNat)
                case atStart => exact ⟨0, by omega, rfl, by rw [show 4 * 0 = 0 by rfl, ovr_zero]; exact hZ9, hY9, hS9, hR9, hK9, hK29⟩
                case round =>
                  clear hZ9 hY9 hS9 hR9 hK9 hK29
                  obtain ⟨c, hc, rfl, hZ, hY, hS, hR, hK, hK2⟩ := hrel
                  obtain ⟨wd, rfl⟩ : ∃ wd, wd = wr := ⟨_, rfl⟩
                  have hLen : (bvs (mixAll Y)).length = (zb 16).length := by rw [bvs_length, len_mixAll, zb_length]
                  by_cases hc4 : c < 4
                  · clear hLen
                    go_wp2
                    rw [show (decide ((c : Int) < 4)) = true from decide_eq_true (by omega)]
                    go_loopw [15] (fun v wr => ∃ k : Nat, k ≤ 4 ∧ v = .int .i64 (k : Int) ∧ Blk wr z 58 (ovr (bvs (mixAll Y)) (zb 16) (4 * c + k)) ∧ Blk wr y 58 (bvs Y) ∧ Blk wr s 58 (bvs S) ∧ Blk wr r 58 (zb 16) ∧ Kept [] w wr ∧ Kept [] w2 wr) (fun v _ => 4 - (intOf v).toNat)
                    case atStart => exact ⟨0, by omega, rfl, hZ, hY, hS, hR, hK, hK2⟩
                    case round =>
                      clear hZ hY hS hR hK hK2
                      obtain ⟨k, hk, rfl, hZ, hY, hS, hR, hK, hK2⟩ := hrel
                      by_cases hk4 : k < 4
                      · have hLen : (bvs (mixAll Y)).length = (zb 16).length := by rw [bvs_length, len_mixAll, zb_length]
                        obtain ⟨c4, h0⟩ : ∃ j : Nat, j = 4 * c := ⟨_, rfl⟩
                        obtain ⟨j1, h1⟩ : ∃ j : Nat, j = 4 * c + k := ⟨_, rfl⟩
                        obtain ⟨a1, h2⟩ : ∃ j : Nat, j = (k + 1) % 4 := ⟨_, rfl⟩
                        obtain ⟨a2, h3⟩ : ∃ j : Nat, j = (k + 2) % 4 := ⟨_, rfl⟩
                        obtain ⟨a3, h4⟩ : ∃ j : Nat, j = (k + 3) % 4 := ⟨_, rfl⟩
                        obtain ⟨k1, e1⟩ : ∃ j : Nat, j = k + 1 := ⟨_, rfl⟩
                        obtain ⟨k2, e2⟩ : ∃ j : Nat, j = k + 2 := ⟨_, rfl⟩
                        obtain ⟨k3, e3⟩ : ∃ j : Nat, j = k + 3 := ⟨_, rfl⟩
                        obtain ⟨j2, h5⟩ : ∃ j : Nat, j = 4 * c + (k + 1) % 4 := ⟨_, rfl⟩
                        obtain ⟨j3, h6⟩ : ∃ j : Nat, j = 4 * c + (k + 2) % 4 := ⟨_, rfl⟩
                        obtain ⟨j4, h7⟩ : ∃ j : Nat, j = 4 * c + (k + 3) % 4 := ⟨_, rfl⟩
                        have hvn := mixAll_at Y c k hc4 hk4
                        rw [← h1, ← h5, ← h6, ← h7] at hvn
                        rw [← h1] at hZ
                        obtain ⟨q0, q1, z1, y1⟩ := mixq0 c k c4 j1 hc4 hk4 h0 h1
                        obtain ⟨p1, m1, t1, q2, z2, y2⟩ := mixq c k 1 c4 k1 a1 j2 1 rfl hc4 hk4 (by decide) h0 e1 h2 h5
                        obtain ⟨p2, m2, t2, q3, z3, y3⟩ := mixq c k 2 c4 k2 a2 j3 2 rfl hc4 hk4 (by decide) h0 e2 h3 h6
                        obtain ⟨p3, m3, t3, q4, z4, y4⟩ := mixq c k 3 c4 k3 a3 j4 3 rfl hc4 hk4 (by decide) h0 e3 h4 h7
                        have hj1 : j1 + 1 = 4 * c + k1 := by rw [h1, e1, Nat.add_assoc]
                        have E1 := Lib.hid e1
                        have c1 := (hY.cell j1).trans (bvs_at (by rw [HYl.out]; exact y1))
                        have c2 := (hY.cell j2).trans (bvs_at (by rw [HYl.out]; exact y2))
                        have c3 := (hY.cell j3).trans (bvs_at (by rw [HYl.out]; exact y3))
                        have c4' := (hY.cell j4).trans (bvs_at (by rw [HYl.out]; exact y4))
                        clear h0 h1 h2 h3 h4 e1 e2 e3 h5 h6 h7 y2 y3 y4
                        generalize Y.getD j1 0 = u1 at *
                        generalize Y.getD j2 0 = u2 at *
                        generalize Y.getD j3 0 = u3 at *
                        generalize Y.getD j4 0 = u4 at *
                        obtain ⟨g1, hg1⟩ : ∃ g : UInt8, g = gmul 0x1b u1 2 := ⟨_, rfl⟩
                        obtain ⟨g2, hg2⟩ : ∃ g : UInt8, g = gmul 0x1b u2 3 := ⟨_, rfl⟩
                        rw [← hg1, ← hg2] at hvn
                        have ht1 : Hid (∀ W, Calls Tryd.prog 79 #[.int .u8 (u1.toNat : Int), .int .u8 2] W fun e w' => e = .returned (.int .u8 (g1.toNat : Int)) ∧ w' = W) := Lib.hid (fun W => by rw [hg1]; exact times5_any u1 2 _ W rfl)
                        have ht2 : Hid (∀ W, Calls Tryd.prog 79 #[.int .u8 (u2.toNat : Int), .int .u8 3] W fun e w' => e = .returned (.int .u8 (g2.toNat : Int)) ∧ w' = W) := Lib.hid (fun W => by rw [hg2]; exact times5_any u2 3 _ W rfl)
                        clear hg1 hg2
                        have hol := ovr_length (n := j1) hLen
                        rw [zb_length] at hol
                        have cc := hZ.cellD j1 (by rw [hol]; exact y1)
                        generalize (ovr (bvs (mixAll Y)) (zb 16) j1)[j1]'(by rw [hol]; exact y1) = uu at cc
                        have f1 := hZ.frz j1
                        have hset := ovr_set (n := j1) hLen (by rw [zb_length]; exact y1) hvn
                        have hnew := hZ.set j1 (.int .u8 (bits .xor .u8 (bits .xor .u8 (bits .xor .u8 (g1.toNat : Int) (g2.toNat : Int)) (u3.toNat : Int)) (u4.toNat : Int)))
                        rw [hset, hj1] at hnew
                        have hYn := hY.set_other (b := z) j1 (.int .u8 (bits .xor .u8 (bits .xor .u8 (bits .xor .u8 (g1.toNat : Int) (g2.toNat : Int)) (u3.toNat : Int)) (u4.toNat : Int))) nyz
                        have hSn := hS.set_other (b := z) j1 (.int .u8 (bits .xor .u8 (bits .xor .u8 (bits .xor .u8 (g1.toNat : Int) (g2.toNat : Int)) (u3.toNat : Int)) (u4.toNat : Int))) nsz
                        have hRn := hR.set_other (b := z) j1 (.int .u8 (bits .xor .u8 (bits .xor .u8 (bits .xor .u8 (g1.toNat : Int) (g2.toNat : Int)) (u3.toNat : Int)) (u4.toNat : Int))) nrz
                        have hKn : Kept [] w (wr.setCell ⟨z, j1, none⟩ (.int .u8 (bits .xor .u8 (bits .xor .u8 (bits .xor .u8 (g1.toNat : Int) (g2.toNat : Int)) (u3.toNat : Int)) (u4.toNat : Int)))) := hK.setCell (by right; exact hzw) _
                        have hKn2 : Kept [] w2 (wr.setCell ⟨z, j1, none⟩ (.int .u8 (bits .xor .u8 (bits .xor .u8 (bits .xor .u8 (g1.toNat : Int) (g2.toNat : Int)) (u3.toNat : Int)) (u4.toNat : Int)))) := hK2.setCell (by right; exact hzw2) _
                        clear hLen hol hvn hset hZ hY hS hR hK hK2 y1 hj1
                        go_wp2
                        go_still_tail 40, (by kernel_rfl)
                        still_call (ht1.out _)
                        repeat still_step
                        still_call (ht2.out _)
                        repeat still_step
                        refine wpStill_nil ?_
                        change wpList _ _ _ _ _ wr.drew
                        go_wp2
                        go_roundw
                        case rel => exact ⟨k1, by have := E1.out; omega, by go_num, hnew, hYn, hSn, hRn, hKn.drewN 1, hKn2.drewN 1⟩
                        case measure => have := E1.out; simp [intOf]; omega
                      · obtain rfl : k = 4 := by omega
                        rw [show 4 * c + 4 = 4 * (c + 1) by omega] at hZ
                        go_wp2
                        go_roundw
                        case rel => exact ⟨c + 1, by omega, by go_num, hZ, hY, hS, hR, hK, hK2⟩
                        case measure => simp [intOf]; omega
                  · obtain rfl : c = 4 := by omega
                    rw [ovr_all hLen (by rw [zb_length]; omega)] at hZ
                    have HZl := Lib.hid (len_mixAll Y)
                    have Hsz := Lib.hid (size_of_len (P := Tryd.prog) (ty := 58) size16 HZl.out)
                    have Hyz := Lib.hid (len16 HYl.out HZl.out)
                    clear hLen
                    generalize mixAll Y = Y2 at *
                    rw [show ((4 : Nat) : Int) = 4 from rfl]
                    go_wp2_with (with_reducible change wpList _ _ _ (⟨_, Op.load _ _, _, _, _, _⟩ :: _) _ _; refine wpList_load_blk rfl 58 (.tmp 13) rfl z rfl 58 _ _ hZ arr16b rfl Hsz.out ?_; refine wpList_store_blk rfl 58 (.tmp 10) (.tmp 112) rfl y _ rfl rfl 58 _ hY Hsz.out Hyz.out (bvs_one _) ?_)
                    intro w10 hY10 hk10 hs10
                    have hS10 := hS.kept hk10 (by simpa using nsy)
                    have hR10 := hR.kept hk10 (by simpa using nry)
                    have hK10 : Kept [] w w10 := hK.trans hk10 (by simp; omega)
                    have hK210 : Kept [] w2 w10 := hK2.trans hk10 (by simp; omega)
                    clear hZ hY hS hR hK hK2 hk10 hs10 HYl Hsz Hyz
                    have hY := hY10
                    have hS := hS10
                    have hR := hR10
                    have hK := hK10
                    have hK2 := hK210
                    have HYl := HZl
                    clear hY10 hS10 hR10 hK10 hK210 HZl
                    generalize Y2 = Y3 at *
                    go_wp2
                    try rw [show (decide ((rr : Int) < 14)) = true from decide_eq_true (by omega)]
                    clear h14
                    go_loopw [16] (fun v wr => ∃ k : Nat, k ≤ 16 ∧ v = .int .i64 (k : Int) ∧ Blk wr y 58 (bvs Y3) ∧ Blk wr s 58 (ovr (bvs (addKey K rr Y3)) (bvs S) k) ∧ Blk wr r 58 (zb 16) ∧ Kept [] w wr ∧ Kept [] w2 wr) (fun v _ => 16 - (intOf v).toNat)
                    case atStart => exact ⟨0, by omega, rfl, hY, by rw [ovr_zero]; exact hS, hR, hK, hK2⟩
                    case round =>
                      clear hY hS hR hK hK2
                      obtain ⟨k, hk, rfl, hY, hS, hR, hK, hK2⟩ := hrel
                      have hLen := len16 (len_addKey K Y3 rr) HSl.out
                      have hL : (bvs S).length = 16 := by rw [bvs_length, HSl.out]
                      by_cases hk16 : k < 16
                      · have hG := HW.out.kept0 hK
                        obtain ⟨r16, h1⟩ : ∃ j : Nat, j = 16 * rr := ⟨_, rfl⟩
                        obtain ⟨j, h2⟩ : ∃ j : Nat, j = 16 * rr + k := ⟨_, rfl⟩
                        have c1 := (hY.cell k).trans (bvs_at (by have := HYl.out; omega))
                        have c2 := (hG.cell j).trans (bvs_at (by have := HKl.out; omega))
                        have hvn := addKey_at K Y3 rr k hk16
                        rw [← h2] at hvn
                        generalize Y3.getD k 0 = u1 at *
                        generalize K.getD j 0 = u2 at *
                        have hol := ovr_length (n := k) hLen
                        have cc := hS.cellD k (by omega)
                        generalize (ovr (bvs (addKey K rr Y3)) (bvs S) k)[k]'(by omega) = uu at cc
                        have f1 := hS.frz k
                        have hset := ovr_set (n := k) hLen (by omega) hvn
                        have hnew := hS.set k (.int .u8 (bits .xor .u8 (u1.toNat : Int) (u2.toNat : Int)))
                        rw [hset] at hnew
                        have hYn := hY.set_other (b := s) k (.int .u8 (bits .xor .u8 (u1.toNat : Int) (u2.toNat : Int))) nsy.symm
                        have hRn := hR.set_other (b := s) k (.int .u8 (bits .xor .u8 (u1.toNat : Int) (u2.toNat : Int))) nrs
                        have hKn : Kept [] w (wr.setCell ⟨s, k, none⟩ (.int .u8 (bits .xor .u8 (u1.toNat : Int) (u2.toNat : Int)))) := hK.setCell (by right; exact hsw) _
                        have hKn2 : Kept [] w2 (wr.setCell ⟨s, k, none⟩ (.int .u8 (bits .xor .u8 (u1.toNat : Int) (u2.toNat : Int)))) := hK2.setCell (by right; exact hsw2) _
                        have q1 : IntKind.i64.wrap (16 * (rr : Int)) = (r16 : Int) := by rw [IntWalk.i64_in _ (by omega)]; omega
                        have q2 : IntKind.i64.wrap ((r16 : Int) + (k : Int)) = (j : Int) := by rw [IntWalk.i64_in _ (by omega)]; omega
                        have z1 : (k : Int) < 16 := by omega
                        have z2 : (j : Int) < 240 := by omega
                        clear hLen hL hol hvn hset hY hS hR hK hK2 hG h1 h2
                        go_wp2
                        go_still_tail 13, (by kernel_rfl)
                        change wpList _ _ _ _ _ wr.drew
                        go_wp2
                        go_roundw
                        case rel => exact ⟨k + 1, by omega, by go_num, hYn, hnew, hRn, hKn.drewN 1, hKn2.drewN 1⟩
                        case measure => simp [intOf]; omega
                      · obtain rfl : k = 16 := by omega
                        rw [ovr_all hLen (by omega), ← Hr2.out] at hS
                        clear hLen hL hY
                        go_wp2
                        go_roundw
                        case rel => exact ⟨n + 1, rr + 1, Lib.hid (by have := Hn.out; omega), by omega, by omega, by go_num, hS, hR, hK, hK2⟩
                        case measure => simp [intOf]; omega
              · have Hr2 : Hid (aesRounds K (n + 1) x0 = addKey K rr Y) := by have := Hrd.out; rw [if_neg h14] at this; exact this
                clear Hrd
                go_wp2
                try rw [show (decide ((rr : Int) < 14)) = false from decide_eq_false (by omega)]
                clear h14
                go_loopw [16] (fun v wr => ∃ k : Nat, k ≤ 16 ∧ v = .int .i64 (k : Int) ∧ Blk wr y 58 (bvs Y) ∧ Blk wr s 58 (ovr (bvs (addKey K rr Y)) (bvs S) k) ∧ Blk wr r 58 (zb 16) ∧ Kept [] w wr ∧ Kept [] w2 wr) (fun v _ => 16 - (intOf v).toNat)
                case atStart => exact ⟨0, by omega, rfl, hY, by rw [ovr_zero]; exact hS, hR, hK, hK2⟩
                case round =>
                  clear hY hS hR hK hK2
                  obtain ⟨k, hk, rfl, hY, hS, hR, hK, hK2⟩ := hrel
                  have hLen := len16 (len_addKey K Y rr) HSl.out
                  have hL : (bvs S).length = 16 := by rw [bvs_length, HSl.out]
                  by_cases hk16 : k < 16
                  · have hG := HW.out.kept0 hK
                    obtain ⟨r16, h1⟩ : ∃ j : Nat, j = 16 * rr := ⟨_, rfl⟩
                    obtain ⟨j, h2⟩ : ∃ j : Nat, j = 16 * rr + k := ⟨_, rfl⟩
                    have c1 := (hY.cell k).trans (bvs_at (by have := HYl.out; omega))
                    have c2 := (hG.cell j).trans (bvs_at (by have := HKl.out; omega))
                    have hvn := addKey_at K Y rr k hk16
                    rw [← h2] at hvn
                    generalize Y.getD k 0 = u1 at *
                    generalize K.getD j 0 = u2 at *
                    have hol := ovr_length (n := k) hLen
                    have cc := hS.cellD k (by omega)
                    generalize (ovr (bvs (addKey K rr Y)) (bvs S) k)[k]'(by omega) = uu at cc
                    have f1 := hS.frz k
                    have hset := ovr_set (n := k) hLen (by omega) hvn
                    have hnew := hS.set k (.int .u8 (bits .xor .u8 (u1.toNat : Int) (u2.toNat : Int)))
                    rw [hset] at hnew
                    have hYn := hY.set_other (b := s) k (.int .u8 (bits .xor .u8 (u1.toNat : Int) (u2.toNat : Int))) nsy.symm
                    have hRn := hR.set_other (b := s) k (.int .u8 (bits .xor .u8 (u1.toNat : Int) (u2.toNat : Int))) nrs
                    have hKn : Kept [] w (wr.setCell ⟨s, k, none⟩ (.int .u8 (bits .xor .u8 (u1.toNat : Int) (u2.toNat : Int)))) := hK.setCell (by right; exact hsw) _
                    have hKn2 : Kept [] w2 (wr.setCell ⟨s, k, none⟩ (.int .u8 (bits .xor .u8 (u1.toNat : Int) (u2.toNat : Int)))) := hK2.setCell (by right; exact hsw2) _
                    have q1 : IntKind.i64.wrap (16 * (rr : Int)) = (r16 : Int) := by rw [IntWalk.i64_in _ (by omega)]; omega
                    have q2 : IntKind.i64.wrap ((r16 : Int) + (k : Int)) = (j : Int) := by rw [IntWalk.i64_in _ (by omega)]; omega
                    have z1 : (k : Int) < 16 := by omega
                    have z2 : (j : Int) < 240 := by omega
                    clear hLen hL hol hvn hset hY hS hR hK hK2 hG h1 h2
                    go_wp2
                    go_still_tail 13, (by kernel_rfl)
                    change wpList _ _ _ _ _ wr.drew
                    go_wp2
                    go_roundw
                    case rel => exact ⟨k + 1, by omega, by go_num, hYn, hnew, hRn, hKn.drewN 1, hKn2.drewN 1⟩
                    case measure => simp [intOf]; omega
                  · obtain rfl : k = 16 := by omega
                    rw [ovr_all hLen (by omega), ← Hr2.out] at hS
                    clear hLen hL hY
                    go_wp2
                    go_roundw
                    case rel => exact ⟨n + 1, rr + 1, Lib.hid (by have := Hn.out; omega), by omega, by omega, by go_num, hS, hR, hK, hK2⟩
                    case measure => simp [intOf]; omega
        · obtain rfl : rr = 15 := by omega
          have hn14 : n = 14 := by have := Hn.out; omega
          rw [hn14, ← Hae.out] at hS
          clear hn14
          go_wp2_with (with_reducible change wpList _ _ _ (⟨_, Op.load _ _, _, _, _, _⟩ :: _) _ _; refine wpList_load_blk rfl 58 (.tmp 7) rfl s rfl 58 _ _ hS arr16b rfl Hsa.out ?_; refine wpList_store_blk rfl 58 (.tmp 6) (.tmp 130) rfl r _ rfl rfl 58 (zb 16) hR Hsa.out Hza.out (bvs_one _) ?_)
          intro w8 hR8 hk8 hs8
          go_wp2
          refine bodyPost_ret (results_blk rfl _ r 58 _ _ rfl hR8 arr16b rfl Hsa.out) rfl ?_
          exact ⟨rfl, hK.trans hk8 (by simp; omega)⟩
end Go.Proofs.YtmjeojbdieaakaaDoor
