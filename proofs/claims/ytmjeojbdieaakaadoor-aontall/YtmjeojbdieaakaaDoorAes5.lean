/-
  Contract of layer 5 (aes): a key's words. No statement of the seed is proved here.
-/
import Derived.Test.YtmjeojbdieaakaaDoorAes4
namespace Go.Proofs.YtmjeojbdieaakaaDoor
open Go.RowKit
set_option linter.unusedVariables false

theorem zeroA60 : (Tryd.prog.info? 106).bind (·.zero) = some (.agg (zws 60).toArray) := by kernel_rfl
theorem arrA60 : Tryd.prog.underlying 106 = some (.array 60 76) := by kernel_rfl
theorem sizeA60 : (Tryd.prog.info? 106).map (·.size) = some 60 := by kernel_rfl
theorem arrKey : Tryd.prog.underlying 24 = some (.array 32 5) := by kernel_rfl
theorem sizeKey : (Tryd.prog.info? 24).map (·.size) = some 32 := by kernel_rfl
theorem wv_mod (x : W32) : wv x % (4294967296 : Int) = wv x := by have := wv_nonneg x; have := wv_lt x; omega
theorem shl24 (x : UInt8) : (x.toNat : Int) * 16777216 = wv (w4 x 0 0 0) := by
  have hx := x.toNat_lt
  rw [wv_eq, w4_nat]
  unfold pk
  simp
  omega

set_option maxRecDepth 100000 in
set_option maxHeartbeats 4000000 in
theorem keyed_any (t : Nat) (key : List UInt8) (w : World) (ht : TbAt w t) (hl : key.length = 32) : Calls Tryd.prog 65 #[.pointer (some ⟨t, 0, none⟩), .agg (bvs key).toArray] w (AggRet (wsOf (aesWords key) 60) w) := by
  have Ht := Lib.hid ht
  have Hl := Lib.hid hl
  have Hwl := Lib.hid (wsOf_length (aesWords key) 60)
  have Hsz := Lib.hid (size_of_lenw (P := Tryd.prog) (ty := 106) sizeA60 Hwl.out)
  have Hzl := Lib.hid (zws_len Hwl.out)
  have HkK : Hid (∀ j, j < 8 → wAt (aesWords key) j = wAt key j) := Lib.hid (fun j hj => kw_key key hl hj)
  have HkF : Hid (∀ n, n < 52 → wAt (aesWords key) (8 + n) = wAt (aesWords key) n ^^^ keyW (aesRc ((8 + n) / 8 - 1)) (8 + n) (wAt (aesWords key) (7 + n))) := Lib.hid (fun n hn => kw_fin key hl n hn)
  generalize aesWords key = K at *
  have hB := Blk.new w 24 (bvs key)
  have hK1 : Kept [] w (w.alloc (.cells (bvs key).toArray 24)) := (Kept.refl [] w).alloc _
  have hs1 : (w.alloc (.cells (bvs key).toArray 24)).heap.size = w.heap.size + 1 := by simp
  have htl := ht.lt
  clear ht
  go_enter Tryd.func65, Tryd.ntmps65
  go_wp2_with (first
    | (with_reducible change wpList _ _ _ (⟨_, Op.box _ _, _, _, _, _⟩ :: _) _ _; refine Great.wpList_boxTo rfl 24 _ rfl _ rfl w.heap.size rfl (bvs key).toArray rfl ?_; generalize w.alloc (.cells (bvs key).toArray 24) = w1 at *)
    | (with_reducible change wpList _ _ _ (⟨_, Op.alloc _, _, _, _, _⟩ :: _) _ _; refine wpList_alloc_blk rfl 106 rfl _ zeroA60 ?_))
  intro w2 hR2 hk2 hs2
  go_wp2_with (with_reducible change wpList _ _ _ (⟨_, Op.alloc _, _, _, _, _⟩ :: _) _ _; refine wpList_alloc_blk rfl 106 rfl _ zeroA60 ?_)
  intro w3 hC3 hk3 hs3
  have hB3 := (hB.kept0 hk2).kept0 hk3
  have hR3 := hR2.kept0 hk3
  have hK3 := (hK1.andThen hk2).andThen hk3
  obtain ⟨c, hc⟩ : ∃ c, c = w.heap.size + 1 + 1 := ⟨_, rfl⟩
  obtain ⟨r, hr⟩ : ∃ r, r = w.heap.size + 1 := ⟨_, rfl⟩
  obtain ⟨g, hg⟩ : ∃ g, g = w.heap.size := ⟨_, rfl⟩
  rw [← hc] at hC3 ⊢
  rw [← hr] at hR3 ⊢
  rw [← hg] at hB3 ⊢
  have n1 : g ≠ c := by omega
  have n2 : r ≠ c := by omega
  have l1 : w.heap.size ≤ r := by omega
  have l2 : w.heap.size ≤ c := by omega
  clear hB hK1 hs1 hR2 hk2 hk3 hs2 hs3 hl hc hr hg htl
  go_wp2
  go_loopw [10] (fun i wr => ∃ k : Nat, k ≤ 8 ∧ i = .int .i64 (k : Int) ∧ Blk wr g 24 (bvs key) ∧ Blk wr c 106 (ovr (wvs (wsOf K 60)) (zws 60) k) ∧ Blk wr r 106 (zws 60) ∧ Kept [] w wr) (fun i _ => 8 - (intOf i).toNat)
  case atStart => exact ⟨0, by omega, rfl, hB3, by rw [ovr_zero]; exact hC3, hR3, hK3⟩
  case round =>
    clear hB3 hC3 hR3 hK3
    obtain ⟨k, hk, rfl, hB, hC, hR, hK⟩ := hrel
    by_cases hlt : k < 8
    · have hLen : (wvs (wsOf K 60)).length = (zws 60).length := Hzl.out.symm
      obtain ⟨a0, h0⟩ : ∃ a : Nat, a = 4 * k := ⟨_, rfl⟩
      obtain ⟨a1, h1⟩ : ∃ a : Nat, a = 4 * k + 1 := ⟨_, rfl⟩
      obtain ⟨a2, h2⟩ : ∃ a : Nat, a = 4 * k + 2 := ⟨_, rfl⟩
      obtain ⟨a3, h3⟩ : ∃ a : Nat, a = 4 * k + 3 := ⟨_, rfl⟩
      have c0 := (hB.cell a0).trans (bvs_at (by have := Hl.out; omega))
      have c1 := (hB.cell a1).trans (bvs_at (by have := Hl.out; omega))
      have c2 := (hB.cell a2).trans (bvs_at (by have := Hl.out; omega))
      have c3 := (hB.cell a3).trans (bvs_at (by have := Hl.out; omega))
      have Hw : Hid (wAt key k = w4 (key.getD a0 0) (key.getD a1 0) (key.getD a2 0) (key.getD a3 0)) := Lib.hid (by rw [h0, h1, h2, h3]; rfl)
      generalize key.getD a0 0 = x0 at *
      generalize key.getD a1 0 = x1 at *
      generalize key.getD a2 0 = x2 at *
      generalize key.getD a3 0 = x3 at *
      have hol := ovr_length (n := k) hLen
      rw [zws_length] at hol
      have cc := hC.cellD k (by omega)
      generalize (ovr (wvs (wsOf K 60)) (zws 60) k)[k]'(by omega) = u at cc
      have f1 := hC.frz k
      have hvn : (wvs (wsOf K 60))[k]? = some (.int .u32 (wv (w4 x0 x1 x2 x3))) := by rw [wvs_at (by rw [Hwl.out]; omega), wsOf_get K (by omega), HkK.out k hlt, Hw.out]
      have hset := ovr_set (n := k) hLen (by rw [zws_length]; omega) hvn
      have hnew := hC.set k (.int .u32 (wv (w4 x0 x1 x2 x3)))
      rw [hset] at hnew
      have hBn := hB.set_other (b := c) k (.int .u32 (wv (w4 x0 x1 x2 x3))) n1
      have hRn := hR.set_other (b := c) k (.int .u32 (wv (w4 x0 x1 x2 x3))) n2
      have hKn : Kept [] w (wr.setCell ⟨c, k, none⟩ (.int .u32 (wv (w4 x0 x1 x2 x3)))) := hK.setCell (by right; exact l2) _
      have q0 : IntKind.i64.wrap (4 * (k : Int)) = (a0 : Int) := by rw [IntWalk.i64_in _ (by omega)]; omega
      have q1 : IntKind.i64.wrap ((a0 : Int) + 1) = (a1 : Int) := by rw [IntWalk.i64_in _ (by omega)]; omega
      have q2 : IntKind.i64.wrap ((a0 : Int) + 2) = (a2 : Int) := by rw [IntWalk.i64_in _ (by omega)]; omega
      have q3 : IntKind.i64.wrap ((a0 : Int) + 3) = (a3 : Int) := by rw [IntWalk.i64_in _ (by omega)]; omega
      have z0 : (a0 : Int) < 32 := by omega
      have z1 : (a1 : Int) < 32 := by omega
      have z2 : (a2 : Int) < 32 := by omega
      have z3 : (a3 : Int) < 32 := by omega
      have zk : (k : Int) < 60 := by omega
      clear hLen hol hvn hset hB hC hR hK h0 h1 h2 h3 Hw
      go_wp2
      go_still_tail 22, (by kernel_rfl)
      still_call (aword_any x0 x1 x2 x3 _)
      repeat still_step
      refine wpStill_nil ?_
      change wpList _ _ _ _ _ wr.drew
      go_wp2
      go_roundw
      case rel => exact ⟨k + 1, by omega, by go_num, hBn, hnew, hRn, hKn.drewN 1⟩
      case measure => simp [intOf]; omega
    · obtain rfl : k = 8 := by omega
      clear hB
      go_wp2
      rw [show ((8 : Nat) : Int) = 8 from rfl]
      go_loopw [7, 8] (fun y i wr => ∃ n j : Nat, Hid (j = 8 + n) ∧ 8 ≤ j ∧ j ≤ 60 ∧ y = .int .u8 ((aesRc ((n + 7) / 8)).toNat : Int) ∧ i = .int .i64 (j : Int) ∧ Blk wr c 106 (ovr (wvs (wsOf K 60)) (zws 60) j) ∧ Blk wr r 106 (zws 60) ∧ Kept [] w wr) (fun _ i _ => 60 - (intOf i).toNat)
      case atStart => exact ⟨0, 8, Lib.hid rfl, by omega, by omega, rfl, rfl, hC, hR, hK⟩
      case round =>
        clear hC hR hK
        obtain ⟨n, j, Hj, hj8, hj60, rfl, rfl, hC, hR, hK⟩ := hrel
        have hLen : (wvs (wsOf K 60)).length = (zws 60).length := Hzl.out.symm
        have hL60 : (wvs (wsOf K 60)).length = 60 := by rw [wvs_length, Hwl.out]
        have hjn := Hj.out
        by_cases hlt : j < 60
        · obtain ⟨i1, hi1⟩ : ∃ a : Nat, a = 7 + n := ⟨_, rfl⟩
          have c1 := (hC.cell i1).trans ((ovr_lt (by omega) (by omega)).trans (wvs_at (by rw [Hwl.out]; omega)))
          have c2 := (hC.cell n).trans ((ovr_lt (by omega) (by omega)).trans (wvs_at (by rw [Hwl.out]; omega)))
          rw [wsOf_get K (by omega)] at c1 c2
          have HF := Lib.hid (HkF.out n (by omega))
          rw [← hi1, ← hjn] at HF
          generalize wAt K i1 = x at *
          generalize wAt K n = y at *
          have hol := ovr_length (n := j) hLen
          rw [zws_length] at hol
          have cc := hC.cellD j (by omega)
          generalize (ovr (wvs (wsOf K 60)) (zws 60) j)[j]'(by omega) = u at cc
          have f1 := hC.frz j
          have hvn : (wvs (wsOf K 60))[j]? = some (.int .u32 (wv (y ^^^ keyW (aesRc (j / 8 - 1)) j x))) := by rw [wvs_at (by rw [Hwl.out]; omega), wsOf_get K (by omega), HF.out]
          have hset := ovr_set (n := j) hLen (by rw [zws_length]; omega) hvn
          have hnew := hC.set j (.int .u32 (wv (y ^^^ keyW (aesRc (j / 8 - 1)) j x)))
          rw [hset] at hnew
          have hRn := hR.set_other (b := c) j (.int .u32 (wv (y ^^^ keyW (aesRc (j / 8 - 1)) j x))) n2
          have hKn : Kept [] w (wr.setCell ⟨c, j, none⟩ (.int .u32 (wv (y ^^^ keyW (aesRc (j / 8 - 1)) j x)))) := hK.setCell (by right; exact l2) _
          have hTb := Ht.out.kept0 hK
          have s1 : (j : Int) - 1 = (i1 : Int) := by omega
          have s2 : (j : Int) - 8 = (n : Int) := by omega
          have z1 : (i1 : Int) < 60 := by omega
          have z2 : (n : Int) < 60 := by omega
          have rx : ∀ x y : W32, bits .xor .u32 (wv x) (wv y) = wv (x ^^^ y) := bits_xorW
          have rm : ∀ x : W32, wv x % 4294967296 = wv x := wv_mod
          have r24 : ∀ x : UInt8, (x.toNat : Int) * 16777216 = wv (w4 x 0 0 0) := shl24
          by_cases h0 : j % 8 = 0
          · have hr0 := rc_at n (by omega)
            rw [← hjn] at hr0
            have Hr1 := Lib.hid hr0.1
            have Hr2 := Lib.hid hr0.2
            have hq : (j : Int) % 8 = 0 := by omega
            have hk0 : keyW (aesRc (j / 8 - 1)) j x = exchW (rotl x 8) ^^^ w4 (aesRc (j / 8 - 1)) 0 0 0 := by unfold keyW; rw [if_pos h0]
            rw [hk0] at hnew hRn hKn
            rw [Hr1.out]
            generalize aesRc (j / 8 - 1) = rc at *
            have hrc := rc.toNat_lt
            clear hLen hL60 hol hvn hset hC hR hK hr0 hk0 HF hi1 Hr1 h0 hjn
            go_wp2_with fail
            refine (aleft_any x 8 _ _ rfl (by omega) (by omega)).mono ?_
            rintro e w4' ⟨rfl, m1, rfl⟩
            go_wp2_with fail
            refine (tword_any t (rotl x 8) _ (hTb.kept0 ((Kept.refl [] wr).drewN m1))).mono ?_
            rintro e w5 ⟨rfl, m2, rfl⟩
            go_wp2_with fail
            refine (doubled_any rc _ _ rfl).mono ?_
            rintro e w6 ⟨rfl, rfl⟩
            go_wp2
            go_roundw
            case rel => exact ⟨n + 1, j + 1, Lib.hid (by have := Hj.out; omega), by omega, by omega, by rw [Hr2.out], by go_num, hnew, hRn, hKn.drewN _⟩
            case measure => simp [intOf]; omega
          · have Hr2 := Lib.hid (rc_not n (by omega))
            by_cases h4 : j % 8 = 4
            · have hq : (j : Int) % 8 = 4 := by omega
              have hk0 : keyW (aesRc (j / 8 - 1)) j x = exchW x := by unfold keyW; rw [if_neg h0, if_pos h4]
              rw [hk0] at hnew hRn hKn
              clear hLen hL60 hol hvn hset hC hR hK hk0 HF hi1 h0 h4 hjn
              go_wp2_with fail
              refine (tword_any t x _ hTb).mono ?_
              rintro e w5 ⟨rfl, m2, rfl⟩
              go_wp2
              go_roundw
              case rel => exact ⟨n + 1, j + 1, Lib.hid (by have := Hj.out; omega), by omega, by omega, by rw [Hr2.out], by go_num, hnew, hRn, hKn.drewN _⟩
              case measure => simp [intOf]; omega
            · obtain ⟨q, hq0⟩ : ∃ q : Nat, q = j % 8 := ⟨_, rfl⟩
              have hq : (j : Int) % 8 = (q : Int) := by omega
              have hqn : (q : Int) ≠ 0 := by omega
              have hq4 : (q : Int) ≠ 4 := by omega
              have hk0 : keyW (aesRc (j / 8 - 1)) j x = x := by unfold keyW; rw [if_neg h0, if_neg h4]
              rw [hk0] at hnew hRn hKn
              clear hLen hL60 hol hvn hset hC hR hK hk0 HF hi1 h0 h4 hjn hq0
              go_wp2
              go_roundw
              case rel => exact ⟨n + 1, j + 1, Lib.hid (by have := Hj.out; omega), by omega, by omega, by rw [Hr2.out], by go_num, hnew, hRn, hKn⟩
              case measure => simp [intOf]; omega
        · obtain rfl : j = 60 := by omega
          rw [ovr_all hLen (by rw [zws_length]; omega)] at hC
          clear hLen hL60 hjn
          go_wp2_with (with_reducible change wpList _ _ _ (⟨_, Op.load _ _, _, _, _, _⟩ :: _) _ _; refine wpList_load_blk rfl 106 (.tmp 5) rfl c rfl 106 _ _ hC arrA60 rfl Hsz.out ?_; refine wpList_store_blk rfl 106 (.tmp 4) (.tmp 71) rfl r _ rfl rfl 106 (zws 60) hR Hsz.out Hzl.out (wvs_one _) ?_)
          intro w6 hR6 hk6 hs6
          go_wp2
          refine bodyPost_ret (results_blk rfl _ r 106 _ _ rfl hR6 arrA60 rfl Hsz.out) rfl ?_
          exact ⟨rfl, hK.trans hk6 (by simp; omega)⟩
end Go.Proofs.YtmjeojbdieaakaaDoor
