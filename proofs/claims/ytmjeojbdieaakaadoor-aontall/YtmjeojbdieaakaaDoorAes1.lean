/-
  Contracts of layer 5 (aes): twice a byte, its affine turn, the field's inverses, the table. No statement of the seed is proved here.
-/
import Derived.Test.YtmjeojbdieaakaaDoorChecked
import Derived.Test.YtmjeojbdieaakaaDoorPb
import Derived.Test.YtmjeojbdieaakaaDoorAesK
import Derived.Outline
import Derived.Deep.QuietTactic
import Derived.BigQuiet
import Derived.StillTailTactics
import Derived.RegionTactic
namespace Go.Proofs.YtmjeojbdieaakaaDoor
open Go.RowKit
set_option linter.unusedVariables false

set_option maxRecDepth 100000 in
theorem dbl_all : ∀ n : Fin 256, ((2 * n.val) ^^^ (2 * n.val / 256 * 283)) % 256 = (xt 0x1b (UInt8.ofNat n.val)).toNat := by decide +kernel
theorem dbl_int (x : UInt8) : bits .xor .u64 ((x.toNat : Int) * 2) ((x.toNat : Int) * 2 / 256 * 283) % 256 = ((xt 0x1b x).toNat : Int) := by
  have hx := x.toNat_lt
  have h := dbl_all ⟨x.toNat, hx⟩
  simp only [UInt8.ofNat_toNat] at h
  rw [← h]
  have e1 : (x.toNat : Int) * 2 = ((2 * x.toNat : Nat) : Int) := by omega
  have e2 : (x.toNat : Int) * 2 / 256 * 283 = ((2 * x.toNat / 256 * 283 : Nat) : Int) := by omega
  rw [e2, e1, u64_xor_nat _ _ (by omega) (by omega)]
  omega
theorem doubled_any (x : UInt8) (z : Int) (w : World) (hz : z = (x.toNat : Int)) : Calls Tryd.prog 45 #[.int .u8 z] w fun e w' => e = .returned (.int .u8 ((xt 0x1b x).toNat : Int)) ∧ w' = w := by
  subst hz
  have hx := x.toNat_lt
  go_enter Tryd.func45, Tryd.ntmps45
  go_wp2
  go_ret
  exact ⟨ret_int (dbl_int x), rfl⟩

theorem trn_int (x y : UInt8) (k : Nat) (hk : k < 4) : bits .xor .u8 (y.toNat : Int) (bits .or .u8 ((x.toNat : Int) * 2 ^ (k + 1) % 256) ((x.toNat : Int) / 2 ^ (8 - (k + 1)))) = ((y ^^^ ((x <<< UInt8.ofNat (k + 1)) ||| (x >>> UInt8.ofNat (8 - (k + 1))))).toNat : Int) := by
  have hx := x.toNat_lt
  have e1 : (x.toNat : Int) * 2 ^ (k + 1) % 256 = ((x <<< UInt8.ofNat (k + 1)).toNat : Int) := by
    rw [UInt8.toNat_shiftLeft, Nat.shiftLeft_eq]
    have : k = 0 ∨ k = 1 ∨ k = 2 ∨ k = 3 := by omega
    rcases this with rfl | rfl | rfl | rfl <;> simp
  have e2 : (x.toNat : Int) / 2 ^ (8 - (k + 1)) = ((x >>> UInt8.ofNat (8 - (k + 1))).toNat : Int) := by
    rw [UInt8.toNat_shiftRight, Nat.shiftRight_eq_div_pow]
    have : k = 0 ∨ k = 1 ∨ k = 2 ∨ k = 3 := by omega
    rcases this with rfl | rfl | rfl | rfl <;> simp
  rw [e1, e2, bits_orB, bits_xorB]

theorem turned_any (x : UInt8) (z : Int) (w : World) (hz : z = (x.toNat : Int)) : Calls Tryd.prog 23 #[.int .u8 z] w fun e w' => e = .returned (.int .u8 ((trn x 4).toNat : Int)) ∧ ∃ m, w' = w.drewN m := by
  subst hz
  have hx := x.toNat_lt
  have h0 : bits .xor .u8 (x.toNat : Int) 99 = ((trn x 0).toNat : Int) := bits_xorB x 99
  go_enter Tryd.func23, Tryd.ntmps23
  go_wp2
  go_loopw [3, 4] (fun y i wr => ∃ k m : Nat, k ≤ 4 ∧ y = .int .u8 ((trn x k).toNat : Int) ∧ i = .int .i64 ((k + 1 : Nat) : Int) ∧ wr = w.drewN m) (fun _ i _ => 6 - (intOf i).toNat)
  case atStart => exact ⟨0, 0, by omega, rfl, rfl, rfl⟩
  case round =>
    obtain ⟨k, m, hk, rfl, rfl, rfl⟩ := hrel
    by_cases hlt : k < 4
    · have h1 := trn_int x (trn x k) k hlt
      go_wp2
      go_quiet (fail)
      go_wp2
      go_roundw
      case rel => exact ⟨k + 1, m + nq, by omega, by rw [show 7 - k = 8 - (k + 1) by omega, h1]; rfl, by go_num, rfl⟩
      case measure => simp [intOf]; omega
    · obtain rfl : k = 4 := by omega
      go_wp2
      go_ret
      exact ⟨rfl, m, rfl⟩

theorem zero256 : (Tryd.prog.info? 26).bind (·.zero) = some (.agg (zb 256).toArray) := by kernel_rfl
theorem arr256b : Tryd.prog.underlying 26 = some (.array 256 5) := by kernel_rfl
theorem size256 : (Tryd.prog.info? 26).map (·.size) = some 256 := by kernel_rfl
theorem size1u : (Tryd.prog.info? 5).map (·.size) = some 1 := by kernel_rfl
theorem und8 : Tryd.prog.underlying 5 = some (.int .u8) := by kernel_rfl

set_option maxRecDepth 100000 in
set_option maxHeartbeats 1000000 in
theorem inverses_any (w : World) : Calls Tryd.prog 22 #[] w (KeyRet invl w) := by
  have Hpl := Lib.hid pwl_length
  have Hpg := Lib.hid pw_get
  have Hil := Lib.hid invl_length
  go_enter Tryd.func22, Tryd.ntmps22
  go_wp2_with (with_reducible change wpList _ _ _ (⟨_, Op.alloc _, _, _, _, _⟩ :: _) _ _; refine wpList_alloc_blk rfl 26 rfl _ zero256 ?_)
  intro w1 hR1 hk1 hs1
  go_wp2_with (with_reducible change wpList _ _ _ (⟨_, Op.alloc _, _, _, _, _⟩ :: _) _ _; refine wpList_alloc_blk rfl 26 rfl _ zero256 ?_)
  intro w2 hP2 hk2 hs2
  go_wp2_with (with_reducible change wpList _ _ _ (⟨_, Op.alloc _, _, _, _, _⟩ :: _) _ _; refine wpList_alloc_blk rfl 26 rfl _ zero256 ?_)
  intro w3 hV3 hk3 hs3
  obtain ⟨r, hr⟩ : ∃ r, r = w.heap.size := ⟨_, rfl⟩
  obtain ⟨p, hp⟩ : ∃ p, p = w.heap.size + 1 := ⟨_, rfl⟩
  obtain ⟨v, hv⟩ : ∃ v, v = w.heap.size + 1 + 1 := ⟨_, rfl⟩
  have hR3 := (hR1.kept0 hk2).kept0 hk3
  have hP3 := hP2.kept0 hk3
  have hK3 := (hk1.andThen hk2).andThen hk3
  rw [← hv] at hV3 ⊢
  rw [← hp] at hP3 ⊢
  rw [← hr] at hR3 ⊢
  have n1 : r ≠ p := by omega
  have n2 : r ≠ v := by omega
  have n3 : p ≠ v := by omega
  have l1 : w.heap.size ≤ r := by omega
  have l2 : w.heap.size ≤ p := by omega
  have l3 : w.heap.size ≤ v := by omega
  clear hR1 hP2 hk1 hk2 hk3 hs1 hs2 hs3 hr hp hv
  go_wp2
  go_loopw [3, 7] (fun y i wr => ∃ k : Nat, k ≤ 256 ∧ y = .int .u8 ((pw k).toNat : Int) ∧ i = .int .i64 (k : Int) ∧ Blk wr p 26 (ovr (bvs pwl) (zb 256) k) ∧ Blk wr v 26 (zb 256) ∧ Blk wr r 26 (zb 256) ∧ Kept [] w wr) (fun _ i _ => 256 - (intOf i).toNat)
  case atStart => exact ⟨0, by omega, rfl, rfl, by rw [ovr_zero]; exact hP3, hV3, hR3, hK3⟩
  case round =>
    clear hP3 hV3 hR3 hK3
    obtain ⟨k, hk, rfl, rfl, hP, hV, hR, hK⟩ := hrel
    have hLen : (bvs pwl).length = (zb 256).length := by rw [bvs_length, Hpl.out, zb_length]
    by_cases hlt : k < 256
    · have hol := ovr_length (n := k) hLen
      rw [zb_length] at hol
      have c1 := hP.cellD k (by omega)
      generalize (ovr (bvs pwl) (zb 256) k)[k]'(by omega) = u at c1
      have f1 := hP.frz k
      have hvn : (bvs pwl)[k]? = some (bcell (pw k)) := by rw [bvs, List.getElem?_map, Hpg.out k hlt]; rfl
      have hset := ovr_set (n := k) hLen (by rw [zb_length]; exact hlt) hvn
      have hnew := hP.set k (bcell (pw k))
      rw [hset] at hnew
      have hVn := hV.set_other (b := p) k (bcell (pw k)) n3.symm
      have hRn := hR.set_other (b := p) k (bcell (pw k)) n1
      have hKn : Kept [] w (wr.setCell ⟨p, k, none⟩ (bcell (pw k))) := hK.setCell (by right; exact l2) _
      unfold bcell at hnew hVn hRn hKn
      have hpx : bits .xor .u8 ((pw k).toNat : Int) ((xt 0x1b (pw k)).toNat : Int) = ((pw (k + 1)).toNat : Int) := bits_xorB _ _
      have hpb := (pw k).toNat_lt
      clear hLen hol hvn hset hP hV hR hK
      go_wp2_with fail
      refine (doubled_any (pw k) _ _ rfl).mono ?_
      rintro e w4 ⟨rfl, rfl⟩
      go_wp2
      go_roundw
      case rel => exact ⟨k + 1, by omega, rfl, by go_num, hnew, hVn, hRn, hKn⟩
      case measure => simp [intOf]; omega
    · obtain rfl : k = 256 := by omega
      rw [ovr_all hLen (by rw [zb_length]; omega)] at hP
      have hsz := size_of_len (P := Tryd.prog) (ty := 26) size256 Hpl.out
      clear hLen
      go_wp2_with (with_reducible change wpList _ _ _ (⟨_, Op.load _ _, _, _, _, _⟩ :: _) _ _; refine wpList_load_blk rfl 26 (.tmp 1) rfl p rfl 26 _ _ hP arr256b rfl hsz ?_)
      go_loopw [19] (fun i wr => ∃ k : Nat, k ≤ 256 ∧ i = .int .i64 (k : Int) ∧ Blk wr p 26 (bvs pwl) ∧ Blk wr v 26 (bvs (invN k)) ∧ Blk wr r 26 (zb 256) ∧ Kept [] w wr) (fun i _ => 256 - (intOf i).toNat)
      case atStart => exact ⟨0, by omega, rfl, hP, hV, hR, hK⟩
      case round =>
        clear hP hV hR hK
        obtain ⟨k, hk, rfl, hP, hV, hR, hK⟩ := hrel
        by_cases hlt : k < 256
        · have hil := invN_length k
          obtain ⟨j, hj⟩ : ∃ j : Nat, j = 255 - k := ⟨_, rfl⟩
          obtain ⟨x, hx⟩ : ∃ x : UInt8, pwl[k]? = some x := ⟨pw k, Hpg.out k hlt⟩
          obtain ⟨y, hy⟩ : ∃ y : UInt8, pwl[j]? = some y := ⟨pw j, Hpg.out j (by omega)⟩
          have hxb := x.toNat_lt
          have hidx := fun W => run_index_agg (P := Tryd.prog) 26 5 256 (bvs pwl).toArray k (.int .u8 (x.toNat : Int)) W arr256b size1u _ und8 rfl hlt (by rw [List.getElem?_toArray, bvs, List.getElem?_map, hx]; rfl)
          have c1 : wr.cell? ⟨p, j, none⟩ = some (.int .u8 (y.toNat : Int)) := by rw [hP.cell, bvs, List.getElem?_map, hy]; rfl
          have c2 := hV.cellD x.toNat (by rw [bvs_length, hil]; omega)
          generalize (bvs (invN k))[x.toNat]'(by rw [bvs_length, hil]; omega) = u at c2
          have f1 := hV.frz x.toNat
          have hset : (bvs (invN k)).set x.toNat (bcell y) = bvs (invN (k + 1)) := by
            rw [invN, bvs, bvs, List.map_set, List.getD_eq_getElem?_getD, hx, List.getD_eq_getElem?_getD, ← hj, hy]; rfl
          have hnew := hV.set x.toNat (bcell y)
          rw [hset] at hnew
          have hPn := hP.set_other (b := v) x.toNat (bcell y) n3
          have hRn := hR.set_other (b := v) x.toNat (bcell y) n2
          have hKn : Kept [] w (wr.setCell ⟨v, x.toNat, none⟩ (bcell y)) := hK.setCell (by right; exact l3) _
          unfold bcell at hnew hPn hRn hKn
          have hsub : (255 : Int) - (k : Int) = (j : Int) := by omega
          have hjl : (j : Int) < 256 := by omega
          clear hset hx hy hil hV hP hR hK hj
          go_wp2
          go_roundw
          case rel => exact ⟨k + 1, by omega, by go_num, hPn, hnew, hRn, hKn⟩
          case measure => simp [intOf]; omega
        · obtain rfl : k = 256 := by omega
          rw [invN_all] at hV
          have hszi := size_of_len (P := Tryd.prog) (ty := 26) size256 Hil.out
          have hzl := zb_len Hil.out
          go_wp2_with (with_reducible change wpList _ _ _ (⟨_, Op.load _ _, _, _, _, _⟩ :: _) _ _; refine wpList_load_blk rfl 26 (.tmp 2) rfl v rfl 26 _ _ hV arr256b rfl hszi ?_; refine wpList_store_blk rfl 26 (.tmp 0) (.tmp 30) rfl r _ rfl rfl 26 (zb 256) hR hszi hzl (bvs_one _) ?_)
          intro w6 hR6 hk6 hs6
          go_wp2
          refine bodyPost_ret (results_blk rfl _ r 26 _ _ rfl hR6 arr256b rfl hszi) rfl ?_
          exact ⟨rfl, hK.trans hk6 (by simp; omega)⟩

set_option maxRecDepth 100000 in
set_option maxHeartbeats 1000000 in
theorem table_any (w : World) : Calls Tryd.prog 7 #[] w (KeyRet sbox w) := by
  have Hsl := Lib.hid sbox_length
  have Hsg := Lib.hid trn_get
  have Hil := Lib.hid invl_length
  have Hszi := Lib.hid (size_of_len (P := Tryd.prog) (ty := 26) size256 Hil.out)
  have Hszs := Lib.hid (size_of_len (P := Tryd.prog) (ty := 26) size256 Hsl.out)
  have Hzi := Lib.hid (zb_len Hil.out)
  have Hzs := Lib.hid (zb_len Hsl.out)
  go_enter Tryd.func7, Tryd.ntmps7
  go_wp2_with (with_reducible change wpList _ _ _ (⟨_, Op.alloc _, _, _, _, _⟩ :: _) _ _; refine wpList_alloc_blk rfl 26 rfl _ zero256 ?_)
  intro w1 hR1 hk1 hs1
  go_wp2_with fail
  refine (inverses_any _).mono ?_
  rintro e w2 ⟨rfl, hk2⟩
  have hR2 := hR1.kept0 hk2
  have hK2 := hk1.andThen hk2
  have hsz2 := hk2.size
  clear hR1 hk1 hk2
  go_wp2_with (with_reducible change wpList _ _ _ (⟨_, Op.alloc _, _, _, _, _⟩ :: _) _ _; refine wpList_alloc_blk rfl 26 rfl _ zero256 ?_)
  intro w3 hP3 hk3 hs3
  go_wp2_with (with_reducible change wpList _ _ _ (⟨_, Op.store _ _ _, _, _, _, _⟩ :: _) _ _; refine wpList_store_blk rfl 26 (.tmp 1) (.tmp 3) rfl w2.heap.size (bvs invl) rfl rfl 26 (zb 256) hP3 Hszi.out Hzi.out (bvs_one _) ?_)
  intro w4 hP4 hk4 hs4
  obtain ⟨r, hr⟩ : ∃ r, r = w.heap.size := ⟨_, rfl⟩
  obtain ⟨p, hp⟩ : ∃ p, p = w2.heap.size := ⟨_, rfl⟩
  have hK4 : Kept [] w w4 := (hK2.andThen hk3).trans hk4 (by simp; omega)
  have hR4 := (hR2.kept0 hk3).kept hk4 (by simp; omega)
  rw [← hp] at hP4 ⊢
  rw [← hr] at hR4 ⊢
  have n1 : r ≠ p := by omega
  have l1 : w.heap.size ≤ r := by omega
  have l2 : w.heap.size ≤ p := by omega
  clear hR2 hP3 hk3 hk4 hs1 hsz2 hs3 hs4 hr hp hK2
  go_wp2
  go_loopw [4] (fun i wr => ∃ k : Nat, k ≤ 256 ∧ i = .int .i64 (k : Int) ∧ Blk wr p 26 (ovr (bvs sbox) (bvs invl) k) ∧ Blk wr r 26 (zb 256) ∧ Kept [] w wr) (fun i _ => 256 - (intOf i).toNat)
  case atStart => exact ⟨0, by omega, rfl, by rw [ovr_zero]; exact hP4, hR4, hK4⟩
  case round =>
    clear hP4 hR4 hK4
    obtain ⟨k, hk, rfl, hP, hR, hK⟩ := hrel
    have hLen : (bvs sbox).length = (bvs invl).length := by rw [bvs_length, bvs_length, Hsl.out, Hil.out]
    have hL2 : (bvs invl).length = 256 := by rw [bvs_length, Hil.out]
    by_cases hlt : k < 256
    · obtain ⟨y, hy⟩ : ∃ y : UInt8, y = invl.getD k 0 := ⟨_, rfl⟩
      have c1 : wr.cell? ⟨p, k, none⟩ = some (.int .u8 (y.toNat : Int)) := by
        rw [hP.cell, ovr_ge hLen (Nat.le_refl k) (by omega), bvs, List.getElem?_map, hy, List.getD_eq_getElem?_getD, List.getElem?_eq_getElem (by have := Hil.out; omega)]; rfl
      have f1 := hP.frz k
      have hvn : (bvs sbox)[k]? = some (bcell (trn y 4)) := by rw [bvs, List.getElem?_map, Hsg.out k hlt, hy]; rfl
      have hset := ovr_set (n := k) hLen (by omega) hvn
      have hnew := hP.set k (bcell (trn y 4))
      rw [hset] at hnew
      have hRn := hR.set_other (b := p) k (bcell (trn y 4)) n1
      have hKn : Kept [] w (wr.setCell ⟨p, k, none⟩ (bcell (trn y 4))) := hK.setCell (by right; exact l2) _
      unfold bcell at hnew hRn hKn
      have hyb := y.toNat_lt
      clear hLen hL2 hvn hset hP hR hK hy
      go_wp2_with fail
      refine (turned_any y _ _ rfl).mono ?_
      rintro e w5 ⟨rfl, m, rfl⟩
      go_wp2
      go_roundw
      case rel => exact ⟨k + 1, by omega, by go_num, hnew, hRn, hKn.drewN m⟩
      case measure => simp [intOf]; omega
    · obtain rfl : k = 256 := by omega
      rw [ovr_all hLen (by omega)] at hP
      clear hLen hL2
      go_wp2_with (with_reducible change wpList _ _ _ (⟨_, Op.load _ _, _, _, _, _⟩ :: _) _ _; refine wpList_load_blk rfl 26 (.tmp 1) rfl p rfl 26 _ _ hP arr256b rfl Hszs.out ?_; refine wpList_store_blk rfl 26 (.tmp 0) (.tmp 14) rfl r _ rfl rfl 26 (zb 256) hR Hszs.out Hzs.out (bvs_one _) ?_)
      intro w6 hR6 hk6 hs6
      go_wp2
      refine bodyPost_ret (results_blk rfl _ r 26 _ _ rfl hR6 arr256b rfl Hszs.out) rfl ?_
      exact ⟨rfl, hK.trans hk6 (by simp; omega)⟩
end Go.Proofs.YtmjeojbdieaakaaDoor
