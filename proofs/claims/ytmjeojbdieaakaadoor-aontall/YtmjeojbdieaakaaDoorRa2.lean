/-
  Contract of the document's own answer for layer 5: a key's words. No statement of the seed is proved here.
-/
import Derived.Test.YtmjeojbdieaakaaDoorAes6
import Derived.Test.YtmjeojbdieaakaaDoorRa0
import Derived.Test.YtmjeojbdieaakaaDoorPb
namespace Go.Proofs.YtmjeojbdieaakaaDoor
open Go.RowKit
set_option linter.unusedVariables false

theorem zeroB4 : (Tryd.prog.info? 130).bind (·.zero) = some (.agg (zb 4).toArray) := by kernel_rfl
theorem arrB4 : Tryd.prog.underlying 130 = some (.array 4 5) := by kernel_rfl
theorem sizeB4 : (Tryd.prog.info? 130).map (·.size) = some 4 := by kernel_rfl
theorem builtB4 : Tryd.prog.built 130 [] = some (zb 4).toArray := by kernel_rfl
theorem list4 {X : List UInt8} (h : X.length = 4) : ∃ a b c d, X = [a, b, c, d] := by
  match X, h with
  | [a, b, c, d], _ => exact ⟨a, b, c, d, rfl⟩
theorem keyB_zero (rc : UInt8) (i : Nat) (x0 x1 x2 x3 : UInt8) (f : Nat → UInt8) (h : i % 8 = 0) (h0 : f 0 = x0) (h1 : f 1 = x1) (h2 : f 2 = x2) (h3 : f 3 = x3) (k : Nat) (hk : k < 4) :
    keyB rc i f k = [sb x1 ^^^ rc, sb x2, sb x3, sb x0].getD k 0 := by
  unfold keyB
  rw [if_pos h]
  have : k = 0 ∨ k = 1 ∨ k = 2 ∨ k = 3 := by omega
  rcases this with rfl | rfl | rfl | rfl
  · show sb (f 1) ^^^ rc = sb x1 ^^^ rc; rw [h1]
  · show sb (f 2) ^^^ 0 = sb x2; rw [h2, UInt8.xor_zero]
  · show sb (f 3) ^^^ 0 = sb x3; rw [h3, UInt8.xor_zero]
  · show sb (f 0) ^^^ 0 = sb x0; rw [h0, UInt8.xor_zero]
theorem map_getD (X : List UInt8) (k : Nat) (hk : k < X.length) : (X.map sb).getD k 0 = sb (X.getD k 0) := by
  rw [List.getD_eq_getElem?_getD, List.getElem?_map, List.getD_eq_getElem?_getD, List.getElem?_eq_getElem hk]; rfl
theorem zb4_size : (Tryd.prog.info? 130).map (·.size) = some (zb 4).length := by kernel_rfl

set_option maxRecDepth 100000 in
set_option maxHeartbeats 8000000 in
theorem words5_any (key : List UInt8) (w : World) (hkl : key.length = 32) :
    Calls Tryd.prog 59 #[.agg (bvs sbox).toArray, .agg (bvs key).toArray] w fun e w' => ∃ g, e = .returned (.slice (some ⟨g, 0, none⟩) 240 240) ∧ Blk w' g 5 (bvs (aesWords key)) ∧ Kept [] w w' := by
  obtain ⟨i0, hi0, hz0, hz1, hz2⟩ := info_parts u8info
  have Hkl := Lib.hid hkl
  have HKl := Lib.hid (aesWords_length hkl)
  have HkF := Lib.hid (fun n k (h : n < 52) (hk : k < 4) => kb_fin key hkl n k h hk)
  have HkK := Lib.hid (fun j (h : j < 32) => kb_key key hkl (j := j) h)
  generalize aesWords key = K at *
  have hT0 := Blk.new w 26 (bvs sbox)
  have kT : Kept [] w (w.alloc (.cells (bvs sbox).toArray 26)) := (Kept.refl [] w).alloc _
  have sT : (w.alloc (.cells (bvs sbox).toArray 26)).heap.size = w.heap.size + 1 := by simp
  obtain ⟨w1, hw1⟩ : ∃ w1, w1 = w.alloc (.cells (bvs sbox).toArray 26) := ⟨_, rfl⟩
  rw [← hw1] at hT0 kT sT
  have hB0 := Blk.new w1 24 (bvs key)
  have kB : Kept [] w1 (w1.alloc (.cells (bvs key).toArray 24)) := (Kept.refl [] w1).alloc _
  have sB : (w1.alloc (.cells (bvs key).toArray 24)).heap.size = w1.heap.size + 1 := by simp
  obtain ⟨w2, hw2⟩ : ∃ w2, w2 = w1.alloc (.cells (bvs key).toArray 24) := ⟨_, rfl⟩
  rw [← hw2] at hB0 kB sB
  have hT := hT0.kept0 kB
  have hK2 := kT.andThen kB
  obtain ⟨t, ht⟩ : ∃ t, t = w.heap.size := ⟨_, rfl⟩
  obtain ⟨b, hb⟩ : ∃ b, b = w1.heap.size := ⟨_, rfl⟩
  obtain ⟨g, hg⟩ : ∃ g, g = w2.heap.size := ⟨_, rfl⟩
  rw [← ht] at hT
  rw [← hb] at hB0
  have hTb : TbAt w2 t := fun x => by rw [hT.cell, bvs, List.getElem?_map, sb_get]; rfl
  have l0 : w.heap.size ≤ g := by omega
  have n0 : t ≠ g := by omega
  have n1 : b ≠ g := by omega
  have HT := Lib.hid hTb
  have W1 := Lib.hid hw1
  have W2 := Lib.hid hw2
  have T0 := Lib.hid ht
  have B0 := Lib.hid hb
  have G0 := Lib.hid hg
  have HT0 : Hid (t < w2.heap.size) := Lib.hid (by omega)
  clear hT0 kT sT kB sB hw1 hw2 ht hb hg hT hTb hkl
  go_enter Tryd.func59, Tryd.ntmps59
  go_wp2_with (first
    | (with_reducible change wpList _ _ _ (⟨_, Op.box _ (Operand.tmp 0), _, _, _, _⟩ :: _) _ _; refine Great.wpList_boxTo rfl 26 _ rfl _ rfl t T0.out.symm (bvs sbox).toArray rfl ?_; rw [← W1.out])
    | (with_reducible change wpList _ _ _ (⟨_, Op.box _ (Operand.tmp 1), _, _, _, _⟩ :: _) _ _; refine Great.wpList_boxTo rfl 24 _ rfl _ rfl b B0.out.symm (bvs key).toArray rfl ?_; rw [← W2.out])
    | (with_reducible change wpList _ _ _ (⟨_, Op.makeSlice _ _ _, _, _, _, _⟩ :: _) _ _; refine wpList_make_bytes rfl _ _ 22 rfl 5 i0 Tryd.underlying22 hi0 hz0 hz1 hz2 _ _ _ _ 240 rfl rfl rfl rfl (by omega) ?_))
  intro w3 hown3 hk3
  have hG3 := hown3.blk
  have hB3 := hB0.kept0 hk3
  have hK3 := hK2.andThen hk3
  have HTk := Lib.hid (fun W (h : Kept [g] w2 W) => HT.out.kept h (by simpa using n0))
  have HZ : Hid ((bvs K).length = (bvs (List.replicate 240 0)).length) := Lib.hid (by rw [bvs_length, bvs_length, HKl.out, List.length_replicate])
  rw [← G0.out] at hG3 ⊢
  clear hown3 hB0 hK2 T0 B0 G0 W1 W2 HT
  go_wp2
  go_loopw [6] (fun i wr => ∃ k : Nat, k ≤ 32 ∧ i = .int .i64 (k : Int) ∧ Blk wr g 5 (ovr (bvs K) (bvs (List.replicate 240 0)) k) ∧ Blk wr b 24 (bvs key) ∧ Kept [] w wr ∧ Kept [g] w2 wr) (fun i _ => 32 - (intOf i).toNat)
  case atStart => exact ⟨0, by omega, rfl, by rw [ovr_zero]; exact hG3, hB3, hK3, hk3.mono (by simp)⟩
  case round =>
    clear hG3 hB3 hK3 hk3
    obtain ⟨k, hk, rfl, hG, hB, hK, hK2⟩ := hrel
    by_cases hlt : k < 32
    · have hLen := HZ.out
      have hL := hLen
      rw [bvs_length (List.replicate 240 0), List.length_replicate] at hL
      have c0 := (hB.cell k).trans (bvs_at (by have := Hkl.out; omega))
      have Hx := Lib.hid (HkK.out k hlt)
      generalize key.getD k 0 = x at *
      have hol := ovr_length (n := k) hLen
      have cc := hG.cellD k (by omega)
      generalize (ovr (bvs K) (bvs (List.replicate 240 0)) k)[k]'(by omega) = u at cc
      have f1 := hG.frz k
      have hvn : (bvs K)[k]? = some (.int .u8 (x.toNat : Int)) := by rw [bvs_at (by have := HKl.out; omega), Hx.out]
      have hset := ovr_set (n := k) hLen (by omega) hvn
      have hnew := hG.set k (.int .u8 (x.toNat : Int))
      rw [hset] at hnew
      have hBn := hB.set_other (b := g) k (.int .u8 (x.toNat : Int)) n1
      have hKn : Kept [] w (wr.setCell ⟨g, k, none⟩ (.int .u8 (x.toNat : Int))) := hK.setCell (by right; exact l0) _
      have hKn2 : Kept [g] w2 (wr.setCell ⟨g, k, none⟩ (.int .u8 (x.toNat : Int))) := hK2.setCell (by left; simp) _
      clear hLen hL hol hvn hset hG hB hK hK2
      go_wp2
      go_roundw
      case rel => exact ⟨k + 1, by omega, by go_num, hnew, hBn, hKn, hKn2⟩
      case measure => simp [intOf]; omega
    · obtain rfl : k = 32 := by omega
      clear hB
      go_wp2
      rw [show ((32 : Nat) : Int) = 32 from rfl]
      go_loopw [7, 8] (fun vr vi wr => ∃ n i : Nat, Hid (i = 8 + n) ∧ 8 ≤ i ∧ i ≤ 60 ∧ vr = .int .u8 ((aesRc ((n + 7) / 8)).toNat : Int) ∧ vi = .int .i64 (i : Int) ∧ Blk wr g 5 (ovr (bvs K) (bvs (List.replicate 240 0)) (4 * i)) ∧ Kept [] w wr ∧ Kept [g] w2 wr) (fun _ vi _ => 60 - (intOf vi).toNat)
      case atStart => exact ⟨0, 8, Lib.hid rfl, by omega, by omega, rfl, rfl, hG, hK, hK2⟩
      case round =>
        clear hG hK hK2
        obtain ⟨n, i, Hi, hi8, hi60, rfl, rfl, hG, hK, hK2⟩ := hrel
        obtain ⟨wa, rfl⟩ : ∃ wa, wa = wr := ⟨_, rfl⟩
        by_cases hlt : i < 60
        · have hL := HZ.out
          rw [bvs_length (List.replicate 240 0), List.length_replicate] at hL
          obtain ⟨X, hX⟩ : ∃ X : List UInt8, X = tab 4 (fun j => K.getD (4 * (7 + n) + j % 4) 0) := ⟨_, rfl⟩
          have hXl : X.length = 4 := by rw [hX]; exact tab_length _ _
          have HXl := Lib.hid hXl
          have HXg : Hid (∀ j, j < 4 → X.getD j 0 = K.getD (4 * (7 + n) + j % 4) 0) := Lib.hid (fun j hj => by rw [hX, tab_get _ hj])
          have HXz := Lib.hid (zb_len hXl)
          clear hX hXl
          go_wp2_with (first
            | (with_reducible change wpList _ _ _ (⟨_, Op.build _ _, _, _, _, _⟩ :: _) _ _; refine wpList_buildTo rfl 130 _ rfl _ rfl (zb 4).toArray (by simpa [Act.eval, Act.put] using builtB4) ?_)
            | (with_reducible change wpList _ _ _ (⟨_, Op.alloc _, _, _, _, _⟩ :: _) _ _; refine wpList_alloc_blk rfl 130 rfl _ zeroB4 ?_))
          intro w4 hX4 hk4 hs4
          refine wpList_store_blk rfl 130 (.tmp 9) (.tmp 29) rfl wa.heap.size (zb 4) rfl rfl 130 (zb 4) hX4 zb4_size rfl (bvs_one _) ?_
          intro w5 hX5 hk5 hs5
          obtain ⟨x, hx⟩ : ∃ x, x = wa.heap.size := ⟨_, rfl⟩
          have hgl := hG.lt
          have hG5 := (hG.kept0 hk4).kept hk5 (by simp; omega)
          have l1 : w.heap.size ≤ x := by have := hK.size; omega
          have hl2 : w2.heap.size ≤ x := by have := hK2.size; omega
          have hK5 : Kept [] w w5 := (hK.andThen hk4).trans hk5 (by simp; omega)
          have hK25 : Kept [g] w2 w5 := (hK2.andThen hk4).trans hk5 (by simp; omega)
          rw [← hx] at hX5 ⊢
          have n2 : g ≠ x := by omega
          clear hX4 hk4 hs4 hk5 hs5 hx hgl hG hK hK2
          go_wp2
          go_loopw [10] (fun v wr => ∃ k : Nat, k ≤ 4 ∧ v = .int .i64 (k : Int) ∧ Blk wr x 130 (ovr (bvs X) (zb 4) k) ∧ Blk wr g 5 (ovr (bvs K) (bvs (List.replicate 240 0)) (4 * i)) ∧ Kept [] w wr ∧ Kept [g] w2 wr) (fun v _ => 4 - (intOf v).toNat)
          case atStart => exact ⟨0, by omega, rfl, by rw [ovr_zero]; exact hX5, hG5, hK5, hK25⟩
          case round =>
            clear hX5 hG5 hK5 hK25
            obtain ⟨k, hk, rfl, hX, hG, hK, hK2⟩ := hrel
            have hLx : (bvs X).length = (zb 4).length := HXz.out.symm
            by_cases hk4 : k < 4
            · obtain ⟨j, hj⟩ : ∃ j : Nat, j = 4 * (7 + n) + k := ⟨_, rfl⟩
              have hin := Hi.out
              have c0 := (hG.cell j).trans ((ovr_lt (by omega) (by omega)).trans (bvs_at (by have := HKl.out; omega)))
              have hxk := HXg.out k hk4
              rw [show k % 4 = k by omega, ← hj] at hxk
              rw [← hxk] at c0
              have hvn : (bvs X)[k]? = some (.int .u8 ((X.getD k 0).toNat : Int)) := bvs_at (by have := HXl.out; omega)
              generalize X.getD k 0 = y at *
              have hol := ovr_length (n := k) hLx
              rw [zb_length] at hol
              have cc := hX.cellD k (by omega)
              generalize (ovr (bvs X) (zb 4) k)[k]'(by omega) = u at cc
              have f1 := hX.frz k
              have hset := ovr_set (n := k) hLx (by rw [zb_length]; exact hk4) hvn
              have hnew := hX.set k (.int .u8 (y.toNat : Int))
              rw [hset] at hnew
              have hGn := hG.set_other (b := x) k (.int .u8 (y.toNat : Int)) n2
              have hKn : Kept [] w (wr.setCell ⟨x, k, none⟩ (.int .u8 (y.toNat : Int))) := hK.setCell (by right; exact l1) _
              have hKn2 : Kept [g] w2 (wr.setCell ⟨x, k, none⟩ (.int .u8 (y.toNat : Int))) := hK2.setCell (by right; exact hl2) _
              have q1 : 4 * (i : Int) - 4 + (k : Int) = (j : Int) := by omega
              have z1 : (j : Int) < 240 := by omega
              clear hLx hol hvn hset hX hG hK hK2 hj hxk hin
              go_wp2
              go_roundw
              case rel => exact ⟨k + 1, by omega, by go_num, hnew, hGn, hKn, hKn2⟩
              case measure => simp [intOf]; omega
            · obtain rfl : k = 4 := by omega
              rw [ovr_all hLx (by rw [zb_length]; omega)] at hX
              clear hLx
              have n3 : x ≠ t := by have := (HTk.out _ hK2).lt; have := n0; intro e; have h1 := hl2; have h2 := HT0.out; omega
              have hcase : (i % 8 = 0) ∨ (i % 8 = 4) ∨ (i % 8 ≠ 0 ∧ i % 8 ≠ 4) := by omega
              have HF1 : Hid (∀ k, k < 4 → K.getD (4 * i + k) 0 = K.getD (4 * n + k) 0 ^^^ keyB (aesRc (i / 8 - 1)) i (fun j => K.getD (4 * (7 + n) + j % 4) 0) k) := Lib.hid (fun k hk => by
                have h := HkF.out n k (by have := Hi.out; omega) hk
                rw [← Hi.out] at h
                exact h)
              rw [show ((4 : Nat) : Int) = 4 from rfl]
              rcases hcase with h0 | h4 | h5
              · obtain ⟨x0, x1, x2, x3, rfl⟩ := list4 HXl.out
                have e0 := HXg.out 0 (by omega)
                have e1 := HXg.out 1 (by omega)
                have e2 := HXg.out 2 (by omega)
                have e3 := HXg.out 3 (by omega)
                have hr0 := rc_at n (by have := Hi.out; omega)
                rw [← Hi.out] at hr0
                have HF2 : Hid (∀ k, k < 4 → K.getD (4 * i + k) 0 = K.getD (4 * n + k) 0 ^^^ [sb x1 ^^^ aesRc (i / 8 - 1), sb x2, sb x3, sb x0].getD k 0) := Lib.hid (fun k hk => by
                  rw [HF1.out k hk, keyB_zero (aesRc (i / 8 - 1)) i x0 x1 x2 x3 _ h0 e0.symm e1.symm e2.symm e3.symm k hk])
                rw [hr0.1]
                have Hrc : Hid (gmul 0x1b (aesRc (i / 8 - 1)) 2 = aesRc ((n + 1 + 7) / 8)) := Lib.hid (by rw [hr0.2, gmul2])
                have hq : (i : Int) % 8 = 0 := by omega
                clear hr0 e0 e1 e2 e3 HF1 HXg HXz h0
                generalize aesRc (i / 8 - 1) = rc at *
                have hrcb := rc.toNat_lt
                go_wp2_with (first
                  | (with_reducible change wpList _ _ _ (⟨_, Op.load _ _, _, _, _, _⟩ :: _) _ _; refine wpList_load_blk rfl 130 (.tmp 9) rfl x rfl 130 _ _ hX arrB4 rfl (size_of_len (P := Tryd.prog) (ty := 130) sizeB4 HXl.out) ?_)
                  | (with_reducible change wpList _ _ _ (⟨_, Op.alloc _, _, _, _, _⟩ :: _) _ _; refine wpList_alloc_blk rfl 130 rfl _ zeroB4 ?_))
                intro w6 hY6 hk6 hs6
                refine wpList_store_blk rfl 130 (.tmp 11) (.tmp 47) rfl wr.heap.size (bvs [x0, x1, x2, x3]) rfl rfl 130 (zb 4) hY6 (size_of_len (P := Tryd.prog) (ty := 130) sizeB4 HXl.out) rfl (bvs_one _) ?_
                intro w7 hY7 hk7 hs7
                obtain ⟨y, hy⟩ : ∃ y, y = wr.heap.size := ⟨_, rfl⟩
                have hxl := hX.lt
                have hgl := hG.lt
                have htl := (HTk.out _ hK2).lt
                have hX7 := (hX.kept0 hk6).kept hk7 (by simp; omega)
                have hG7 := (hG.kept0 hk6).kept hk7 (by simp; omega)
                have hK7 : Kept [] w w7 := (hK.andThen hk6).trans hk7 (by have := hK.size; simp; omega)
                have hK27 : Kept [g] w2 w7 := (hK2.andThen hk6).trans hk7 (by have := hK2.size; simp; omega)
                rw [← hy] at hY7 ⊢
                have n4 : x ≠ y := by omega
                have n5 : y ≠ x := by omega
                have hT7 := HTk.out _ hK27
                have d0 : w7.cell? ⟨y, 0, none⟩ = some (.int .u8 (x0.toNat : Int)) := hY7.cell 0
                have d1 : w7.cell? ⟨y, 1, none⟩ = some (.int .u8 (x1.toNat : Int)) := hY7.cell 1
                have d2 : w7.cell? ⟨y, 2, none⟩ = some (.int .u8 (x2.toNat : Int)) := hY7.cell 2
                have d3 : w7.cell? ⟨y, 3, none⟩ = some (.int .u8 (x3.toNat : Int)) := hY7.cell 3
                have t0 := hT7 x0
                have t1 := hT7 x1
                have t2 := hT7 x2
                have t3 := hT7 x3
                have b0 := x0.toNat_lt
                have b1 := x1.toNat_lt
                have b2 := x2.toNat_lt
                have b3 := x3.toNat_lt
                have n6 : t ≠ x := n3.symm
                have g0 : w7.cell? ⟨x, 0, none⟩ = some (.int .u8 (x0.toNat : Int)) := hX7.cell 0
                have g1 : w7.cell? ⟨x, 1, none⟩ = some (.int .u8 (x1.toNat : Int)) := hX7.cell 1
                have g2 : w7.cell? ⟨x, 2, none⟩ = some (.int .u8 (x2.toNat : Int)) := hX7.cell 2
                have g3 : w7.cell? ⟨x, 3, none⟩ = some (.int .u8 (x3.toNat : Int)) := hX7.cell 3
                have f0 := hX7.frz 0
                have f1 := hX7.frz 1
                have f2 := hX7.frz 2
                have f3 := hX7.frz 3
                have rxb : ∀ x y : UInt8, bits .xor .u8 (x.toNat : Int) (y.toNat : Int) = ((x ^^^ y).toNat : Int) := bits_xorB
                have hXn := (((hX7.set 0 (.int .u8 ((sb x1 ^^^ rc).toNat : Int))).set 1 (.int .u8 ((sb x2).toNat : Int))).set 2 (.int .u8 ((sb x3).toNat : Int))).set 3 (.int .u8 ((sb x0).toNat : Int))
                have hXe : ((((bvs [x0, x1, x2, x3]).set 0 (.int .u8 ((sb x1 ^^^ rc).toNat : Int))).set 1 (.int .u8 ((sb x2).toNat : Int))).set 2 (.int .u8 ((sb x3).toNat : Int))).set 3 (.int .u8 ((sb x0).toNat : Int)) = bvs [sb x1 ^^^ rc, sb x2, sb x3, sb x0] := rfl
                rw [hXe] at hXn
                have hGn := (((hG7.set_other (b := x) 0 (.int .u8 ((sb x1 ^^^ rc).toNat : Int)) n2).set_other (b := x) 1 (.int .u8 ((sb x2).toNat : Int)) n2).set_other (b := x) 2 (.int .u8 ((sb x3).toNat : Int)) n2).set_other (b := x) 3 (.int .u8 ((sb x0).toNat : Int)) n2
                have hKn := (((hK7.setCell (p := ⟨x, 0, none⟩) (by right; exact l1) (.int .u8 ((sb x1 ^^^ rc).toNat : Int))).setCell (p := ⟨x, 1, none⟩) (by right; exact l1) (.int .u8 ((sb x2).toNat : Int))).setCell (p := ⟨x, 2, none⟩) (by right; exact l1) (.int .u8 ((sb x3).toNat : Int))).setCell (p := ⟨x, 3, none⟩) (by right; exact l1) (.int .u8 ((sb x0).toNat : Int))
                have hKn2 := (((hK27.setCell (p := ⟨x, 0, none⟩) (by right; exact hl2) (.int .u8 ((sb x1 ^^^ rc).toNat : Int))).setCell (p := ⟨x, 1, none⟩) (by right; exact hl2) (.int .u8 ((sb x2).toNat : Int))).setCell (p := ⟨x, 2, none⟩) (by right; exact hl2) (.int .u8 ((sb x3).toNat : Int))).setCell (p := ⟨x, 3, none⟩) (by right; exact hl2) (.int .u8 ((sb x0).toNat : Int))
                clear hX hG hK hK2 hY6 hk6 hs6 hk7 hs7 hy hxl hgl htl hX7 hG7 hK7 hK27 hY7 hT7 hXe
                -- BRANCHES
                go_wp2_with fail
                rw [← UInt8.toNat_xor]
                generalize sb x1 ^^^ rc = v0 at *
                obtain ⟨wb, hwb⟩ : ∃ wb, wb = ((((w7.setCell ⟨x, 0, none⟩ (.int .u8 (v0.toNat : Int))).setCell ⟨x, 1, none⟩ (.int .u8 ((sb x2).toNat : Int))).setCell ⟨x, 2, none⟩ (.int .u8 ((sb x3).toNat : Int))).setCell ⟨x, 3, none⟩ (.int .u8 ((sb x0).toNat : Int))) := ⟨_, rfl⟩
                rw [← hwb] at hXn hGn hKn hKn2 ⊢
                obtain ⟨X2, hX2⟩ : ∃ X2, X2 = [v0, sb x2, sb x3, sb x0] := ⟨_, rfl⟩
                rw [← hX2] at hXn HF2
                have HX2l : Hid (X2.length = 4) := Lib.hid (by rw [hX2]; rfl)
                clear hwb hX2 g0 g1 g2 g3 f0 f1 f2 f3 d0 d1 d2 d3 t0 t1 t2 t3 rxb
                refine (times5_any rc 2 _ _ rfl).mono ?_
                rintro e w8 ⟨rfl, rfl⟩
                generalize gmul 0x1b rc 2 = rc2 at *
                have Hrc2 := Hrc
                have hX := hXn
                have hG := hGn
                have hK := hKn
                have hK2 := hKn2
                clear hXn hGn hKn hKn2 Hrc
                go_wp2
                try rw [hq]
                clear hq
                go_loopw [13] (fun v wr => ∃ k : Nat, k ≤ 4 ∧ v = .int .i64 (k : Int) ∧ Blk wr x 130 (bvs X2) ∧ Blk wr g 5 (ovr (bvs K) (bvs (List.replicate 240 0)) (4 * i + k)) ∧ Kept [] w wr ∧ Kept [g] w2 wr) (fun v _ => 4 - (intOf v).toNat)
                case atStart => exact ⟨0, by omega, rfl, hX, hG, hK, hK2⟩
                case round =>
                  clear hX hG hK hK2
                  obtain ⟨k, hk, rfl, hX, hG, hK, hK2⟩ := hrel
                  by_cases hk4 : k < 4
                  · have hin := Hi.out
                    have hLen := HZ.out
                    have hL := hLen
                    rw [bvs_length (List.replicate 240 0), List.length_replicate] at hL
                    obtain ⟨i4, h1⟩ : ∃ j : Nat, j = 4 * i := ⟨_, rfl⟩
                    obtain ⟨b1, h2⟩ : ∃ j : Nat, j = 4 * i + k := ⟨_, rfl⟩
                    obtain ⟨n4, h3⟩ : ∃ j : Nat, j = 4 * n := ⟨_, rfl⟩
                    obtain ⟨b2, h4'⟩ : ∃ j : Nat, j = 4 * n + k := ⟨_, rfl⟩
                    have hF := HF2.out k hk4
                    rw [← h2, ← h4'] at hF
                    rw [← h2] at hG
                    have c1 := (hG.cell b2).trans ((ovr_lt (by omega) (by omega)).trans (bvs_at (by have := HKl.out; omega)))
                    have c2 := (hX.cell k).trans (bvs_at (by have := HX2l.out; omega))
                    have hvn : (bvs K)[b1]? = some (.int .u8 ((K.getD b1 0).toNat : Int)) := bvs_at (by have := HKl.out; omega)
                    rw [hF, ← bits_xorB] at hvn
                    generalize K.getD b2 0 = u1 at *
                    generalize X2.getD k 0 = u2 at *
                    have hol := ovr_length (n := b1) hLen
                    have cc := hG.cellD b1 (by omega)
                    generalize (ovr (bvs K) (bvs (List.replicate 240 0)) b1)[b1]'(by omega) = uu at cc
                    have f1 := hG.frz b1
                    have hset := ovr_set (n := b1) hLen (by omega) hvn
                    have hnew := hG.set b1 (.int .u8 (bits .xor .u8 (u1.toNat : Int) (u2.toNat : Int)))
                    rw [hset, show b1 + 1 = 4 * i + (k + 1) by omega] at hnew
                    have hXn := hX.set_other (b := g) b1 (.int .u8 (bits .xor .u8 (u1.toNat : Int) (u2.toNat : Int))) n2.symm
                    have hKn : Kept [] w (wr.setCell ⟨g, b1, none⟩ (.int .u8 (bits .xor .u8 (u1.toNat : Int) (u2.toNat : Int)))) := hK.setCell (by right; exact l0) _
                    have hKn2 : Kept [g] w2 (wr.setCell ⟨g, b1, none⟩ (.int .u8 (bits .xor .u8 (u1.toNat : Int) (u2.toNat : Int)))) := hK2.setCell (by left; simp) _
                    have q1 : IntKind.i64.wrap (4 * (i : Int)) = (i4 : Int) := by rw [IntWalk.i64_in _ (by omega)]; omega
                    have q2 : IntKind.i64.wrap ((i4 : Int) + (k : Int)) = (b1 : Int) := by rw [IntWalk.i64_in _ (by omega)]; omega
                    have q3 : IntKind.i64.wrap ((i4 : Int) - 32) = (n4 : Int) := by rw [IntWalk.i64_in _ (by omega)]; omega
                    have q4 : IntKind.i64.wrap ((n4 : Int) + (k : Int)) = (b2 : Int) := by rw [IntWalk.i64_in _ (by omega)]; omega
                    have z1 : (b1 : Int) < 240 := by omega
                    have z2 : (b2 : Int) < 240 := by omega
                    have zk : (k : Int) < 4 := by omega
                    clear hLen hL hol hvn hset hX hG hK hK2 hin h1 h2 h3 h4' hF
                    go_wp2
                    go_still_tail 18, (by kernel_rfl)
                    change wpList _ _ _ _ _ wr.drew
                    go_wp2
                    go_roundw
                    case rel => exact ⟨k + 1, by omega, by go_num, hXn, hnew, hKn.drewN 1, hKn2.drewN 1⟩
                    case measure => simp [intOf]; omega
                  · obtain rfl : k = 4 := by omega
                    rw [show 4 * i + 4 = 4 * (i + 1) by omega] at hG
                    clear hX
                    go_wp2
                    go_roundw
                    case rel => exact ⟨n + 1, i + 1, Lib.hid (by have := Hi.out; omega), by omega, by omega, by rw [← Hrc2.out], by go_num, hG, hK, hK2⟩
                    case measure => simp [intOf]; omega
              · have HF2 : Hid (∀ k, k < 4 → K.getD (4 * i + k) 0 = K.getD (4 * n + k) 0 ^^^ (X.map sb).getD k 0) := Lib.hid (fun k hk => by
                  have h1 := HF1.out k hk
                  unfold keyB at h1
                  rw [if_neg (by omega), if_pos h4] at h1
                  rw [h1, map_getD X k (by have := HXl.out; omega), HXg.out k hk])
                have Hrc2 : Hid (aesRc ((n + 7) / 8) = aesRc ((n + 1 + 7) / 8)) := Lib.hid (rc_not n (by have := Hi.out; omega)).symm
                have hq : (i : Int) % 8 = 4 := by omega
                generalize aesRc ((n + 7) / 8) = rc2 at *
                obtain ⟨X2, hX2⟩ : ∃ X2, X2 = X.map sb := ⟨_, rfl⟩
                rw [← hX2] at HF2
                have HX2l : Hid (X2.length = 4) := Lib.hid (by rw [hX2, List.length_map, HXl.out])
                have HX2 := Lib.hid hX2
                clear hX2 HF1 HXg HXz h4
                go_wp2
                go_loopw [12] (fun v wr => ∃ k : Nat, k ≤ 4 ∧ v = .int .i64 (k : Int) ∧ Blk wr x 130 (ovr (bvs X2) (bvs X) k) ∧ Blk wr g 5 (ovr (bvs K) (bvs (List.replicate 240 0)) (4 * i)) ∧ Kept [] w wr ∧ Kept [g] w2 wr) (fun v _ => 4 - (intOf v).toNat)
                case atStart => exact ⟨0, by omega, rfl, by rw [ovr_zero]; exact hX, hG, hK, hK2⟩
                case round =>
                  clear hX hG hK hK2
                  obtain ⟨k, hk, rfl, hX, hG, hK, hK2⟩ := hrel
                  have hLx : (bvs X2).length = (bvs X).length := by rw [bvs_length, bvs_length, HX2l.out, HXl.out]
                  have hL4 : (bvs X).length = 4 := by rw [bvs_length, HXl.out]
                  by_cases hk4 : k < 4
                  · have c0 := (hX.cell k).trans ((ovr_ge hLx (Nat.le_refl k) (by omega)).trans (bvs_at (by have := HXl.out; omega)))
                    have hxk := map_getD X k (by have := HXl.out; omega)
                    rw [← HX2.out] at hxk
                    have hvn : (bvs X2)[k]? = some (.int .u8 ((X2.getD k 0).toNat : Int)) := bvs_at (by have := HX2l.out; omega)
                    rw [hxk] at hvn
                    generalize X.getD k 0 = y at *
                    have tt := HTk.out _ hK2 y
                    have yb := y.toNat_lt
                    have zy : (y.toNat : Int) < 256 := by omega
                    have f1 := hX.frz k
                    have hset := ovr_set (n := k) hLx (by omega) hvn
                    have hnew := hX.set k (.int .u8 ((sb y).toNat : Int))
                    rw [hset] at hnew
                    have hGn := hG.set_other (b := x) k (.int .u8 ((sb y).toNat : Int)) n2
                    have hKn : Kept [] w (wr.setCell ⟨x, k, none⟩ (.int .u8 ((sb y).toNat : Int))) := hK.setCell (by right; exact l1) _
                    have hKn2 : Kept [g] w2 (wr.setCell ⟨x, k, none⟩ (.int .u8 ((sb y).toNat : Int))) := hK2.setCell (by right; exact hl2) _
                    clear hLx hL4 hvn hset hX hG hK hK2 hxk
                    go_wp2
                    go_roundw
                    case rel => exact ⟨k + 1, by omega, by go_num, hnew, hGn, hKn, hKn2⟩
                    case measure => simp [intOf]; omega
                  · obtain rfl : k = 4 := by omega
                    rw [ovr_all hLx (by omega)] at hX
                    clear hLx hL4
                    go_wp2
                    try rw [hq]
                    try rw [show ((4 : Int) == 0) = false from rfl]
                    try rw [show ((4 : Int) == 4) = true from rfl]
                    try rw [show ((4 : Nat) : Int) = 4 from rfl]
                    clear hq
                    go_loopw [13] (fun v wr => ∃ k : Nat, k ≤ 4 ∧ v = .int .i64 (k : Int) ∧ Blk wr x 130 (bvs X2) ∧ Blk wr g 5 (ovr (bvs K) (bvs (List.replicate 240 0)) (4 * i + k)) ∧ Kept [] w wr ∧ Kept [g] w2 wr) (fun v _ => 4 - (intOf v).toNat)
                    case atStart => exact ⟨0, by omega, rfl, hX, hG, hK, hK2⟩
                    case round =>
                      clear hX hG hK hK2
                      obtain ⟨k, hk, rfl, hX, hG, hK, hK2⟩ := hrel
                      by_cases hk4 : k < 4
                      · have hin := Hi.out
                        have hLen := HZ.out
                        have hL := hLen
                        rw [bvs_length (List.replicate 240 0), List.length_replicate] at hL
                        obtain ⟨i4, h1⟩ : ∃ j : Nat, j = 4 * i := ⟨_, rfl⟩
                        obtain ⟨b1, h2⟩ : ∃ j : Nat, j = 4 * i + k := ⟨_, rfl⟩
                        obtain ⟨n4, h3⟩ : ∃ j : Nat, j = 4 * n := ⟨_, rfl⟩
                        obtain ⟨b2, h4'⟩ : ∃ j : Nat, j = 4 * n + k := ⟨_, rfl⟩
                        have hF := HF2.out k hk4
                        rw [← h2, ← h4'] at hF
                        rw [← h2] at hG
                        have c1 := (hG.cell b2).trans ((ovr_lt (by omega) (by omega)).trans (bvs_at (by have := HKl.out; omega)))
                        have c2 := (hX.cell k).trans (bvs_at (by have := HX2l.out; omega))
                        have hvn : (bvs K)[b1]? = some (.int .u8 ((K.getD b1 0).toNat : Int)) := bvs_at (by have := HKl.out; omega)
                        rw [hF, ← bits_xorB] at hvn
                        generalize K.getD b2 0 = u1 at *
                        generalize X2.getD k 0 = u2 at *
                        have hol := ovr_length (n := b1) hLen
                        have cc := hG.cellD b1 (by omega)
                        generalize (ovr (bvs K) (bvs (List.replicate 240 0)) b1)[b1]'(by omega) = uu at cc
                        have f1 := hG.frz b1
                        have hset := ovr_set (n := b1) hLen (by omega) hvn
                        have hnew := hG.set b1 (.int .u8 (bits .xor .u8 (u1.toNat : Int) (u2.toNat : Int)))
                        rw [hset, show b1 + 1 = 4 * i + (k + 1) by omega] at hnew
                        have hXn := hX.set_other (b := g) b1 (.int .u8 (bits .xor .u8 (u1.toNat : Int) (u2.toNat : Int))) n2.symm
                        have hKn : Kept [] w (wr.setCell ⟨g, b1, none⟩ (.int .u8 (bits .xor .u8 (u1.toNat : Int) (u2.toNat : Int)))) := hK.setCell (by right; exact l0) _
                        have hKn2 : Kept [g] w2 (wr.setCell ⟨g, b1, none⟩ (.int .u8 (bits .xor .u8 (u1.toNat : Int) (u2.toNat : Int)))) := hK2.setCell (by left; simp) _
                        have q1 : IntKind.i64.wrap (4 * (i : Int)) = (i4 : Int) := by rw [IntWalk.i64_in _ (by omega)]; omega
                        have q2 : IntKind.i64.wrap ((i4 : Int) + (k : Int)) = (b1 : Int) := by rw [IntWalk.i64_in _ (by omega)]; omega
                        have q3 : IntKind.i64.wrap ((i4 : Int) - 32) = (n4 : Int) := by rw [IntWalk.i64_in _ (by omega)]; omega
                        have q4 : IntKind.i64.wrap ((n4 : Int) + (k : Int)) = (b2 : Int) := by rw [IntWalk.i64_in _ (by omega)]; omega
                        have z1 : (b1 : Int) < 240 := by omega
                        have z2 : (b2 : Int) < 240 := by omega
                        have zk : (k : Int) < 4 := by omega
                        clear hLen hL hol hvn hset hX hG hK hK2 hin h1 h2 h3 h4' hF
                        go_wp2
                        go_still_tail 18, (by kernel_rfl)
                        change wpList _ _ _ _ _ wr.drew
                        go_wp2
                        go_roundw
                        case rel => exact ⟨k + 1, by omega, by go_num, hXn, hnew, hKn.drewN 1, hKn2.drewN 1⟩
                        case measure => simp [intOf]; omega
                      · obtain rfl : k = 4 := by omega
                        rw [show 4 * i + 4 = 4 * (i + 1) by omega] at hG
                        clear hX
                        go_wp2
                        go_roundw
                        case rel => exact ⟨n + 1, i + 1, Lib.hid (by have := Hi.out; omega), by omega, by omega, by rw [← Hrc2.out], by go_num, hG, hK, hK2⟩
                        case measure => simp [intOf]; omega
              · obtain ⟨h5a, h5b⟩ := h5
                obtain ⟨q, hq0⟩ : ∃ q : Nat, q = i % 8 := ⟨_, rfl⟩
                have hq : (i : Int) % 8 = (q : Int) := by omega
                have hqn : (q : Int) ≠ 0 := by omega
                have hq4 : (q : Int) ≠ 4 := by omega
                have HF2 : Hid (∀ k, k < 4 → K.getD (4 * i + k) 0 = K.getD (4 * n + k) 0 ^^^ X.getD k 0) := Lib.hid (fun k hk => by
                  have h1 := HF1.out k hk
                  unfold keyB at h1
                  rw [if_neg h5a, if_neg h5b] at h1
                  rw [h1, HXg.out k hk])
                have Hrc2 : Hid (aesRc ((n + 7) / 8) = aesRc ((n + 1 + 7) / 8)) := Lib.hid (rc_not n (by have := Hi.out; omega)).symm
                generalize aesRc ((n + 7) / 8) = rc2 at *
                have HX2l := HXl
                clear HF1 HXg HXz h5a h5b hq0 HXl
                generalize X = X2 at *
                go_wp2
                try rw [hq]
                try rw [show ((q : Int) == 0) = false from beq_eq_false_iff_ne.2 hqn]
                try rw [show ((q : Int) == 4) = false from beq_eq_false_iff_ne.2 hq4]
                clear hqn hq4
                clear hq
                go_loopw [13] (fun v wr => ∃ k : Nat, k ≤ 4 ∧ v = .int .i64 (k : Int) ∧ Blk wr x 130 (bvs X2) ∧ Blk wr g 5 (ovr (bvs K) (bvs (List.replicate 240 0)) (4 * i + k)) ∧ Kept [] w wr ∧ Kept [g] w2 wr) (fun v _ => 4 - (intOf v).toNat)
                case atStart => exact ⟨0, by omega, rfl, hX, hG, hK, hK2⟩
                case round =>
                  clear hX hG hK hK2
                  obtain ⟨k, hk, rfl, hX, hG, hK, hK2⟩ := hrel
                  by_cases hk4 : k < 4
                  · have hin := Hi.out
                    have hLen := HZ.out
                    have hL := hLen
                    rw [bvs_length (List.replicate 240 0), List.length_replicate] at hL
                    obtain ⟨i4, h1⟩ : ∃ j : Nat, j = 4 * i := ⟨_, rfl⟩
                    obtain ⟨b1, h2⟩ : ∃ j : Nat, j = 4 * i + k := ⟨_, rfl⟩
                    obtain ⟨n4, h3⟩ : ∃ j : Nat, j = 4 * n := ⟨_, rfl⟩
                    obtain ⟨b2, h4'⟩ : ∃ j : Nat, j = 4 * n + k := ⟨_, rfl⟩
                    have hF := HF2.out k hk4
                    rw [← h2, ← h4'] at hF
                    rw [← h2] at hG
                    have c1 := (hG.cell b2).trans ((ovr_lt (by omega) (by omega)).trans (bvs_at (by have := HKl.out; omega)))
                    have c2 := (hX.cell k).trans (bvs_at (by have := HX2l.out; omega))
                    have hvn : (bvs K)[b1]? = some (.int .u8 ((K.getD b1 0).toNat : Int)) := bvs_at (by have := HKl.out; omega)
                    rw [hF, ← bits_xorB] at hvn
                    generalize K.getD b2 0 = u1 at *
                    generalize X2.getD k 0 = u2 at *
                    have hol := ovr_length (n := b1) hLen
                    have cc := hG.cellD b1 (by omega)
                    generalize (ovr (bvs K) (bvs (List.replicate 240 0)) b1)[b1]'(by omega) = uu at cc
                    have f1 := hG.frz b1
                    have hset := ovr_set (n := b1) hLen (by omega) hvn
                    have hnew := hG.set b1 (.int .u8 (bits .xor .u8 (u1.toNat : Int) (u2.toNat : Int)))
                    rw [hset, show b1 + 1 = 4 * i + (k + 1) by omega] at hnew
                    have hXn := hX.set_other (b := g) b1 (.int .u8 (bits .xor .u8 (u1.toNat : Int) (u2.toNat : Int))) n2.symm
                    have hKn : Kept [] w (wr.setCell ⟨g, b1, none⟩ (.int .u8 (bits .xor .u8 (u1.toNat : Int) (u2.toNat : Int)))) := hK.setCell (by right; exact l0) _
                    have hKn2 : Kept [g] w2 (wr.setCell ⟨g, b1, none⟩ (.int .u8 (bits .xor .u8 (u1.toNat : Int) (u2.toNat : Int)))) := hK2.setCell (by left; simp) _
                    have q1 : IntKind.i64.wrap (4 * (i : Int)) = (i4 : Int) := by rw [IntWalk.i64_in _ (by omega)]; omega
                    have q2 : IntKind.i64.wrap ((i4 : Int) + (k : Int)) = (b1 : Int) := by rw [IntWalk.i64_in _ (by omega)]; omega
                    have q3 : IntKind.i64.wrap ((i4 : Int) - 32) = (n4 : Int) := by rw [IntWalk.i64_in _ (by omega)]; omega
                    have q4 : IntKind.i64.wrap ((n4 : Int) + (k : Int)) = (b2 : Int) := by rw [IntWalk.i64_in _ (by omega)]; omega
                    have z1 : (b1 : Int) < 240 := by omega
                    have z2 : (b2 : Int) < 240 := by omega
                    have zk : (k : Int) < 4 := by omega
                    clear hLen hL hol hvn hset hX hG hK hK2 hin h1 h2 h3 h4' hF
                    go_wp2
                    go_still_tail 18, (by kernel_rfl)
                    change wpList _ _ _ _ _ wr.drew
                    go_wp2
                    go_roundw
                    case rel => exact ⟨k + 1, by omega, by go_num, hXn, hnew, hKn.drewN 1, hKn2.drewN 1⟩
                    case measure => simp [intOf]; omega
                  · obtain rfl : k = 4 := by omega
                    rw [show 4 * i + 4 = 4 * (i + 1) by omega] at hG
                    clear hX
                    go_wp2
                    go_roundw
                    case rel => exact ⟨n + 1, i + 1, Lib.hid (by have := Hi.out; omega), by omega, by omega, by rw [← Hrc2.out], by go_num, hG, hK, hK2⟩
                    case measure => simp [intOf]; omega
        · obtain rfl : i = 60 := by omega
          have hL := HZ.out
          rw [ovr_all hL (by rw [bvs_length, List.length_replicate]; omega)] at hG
          clear hL
          go_wp2
          go_ret
          exact ⟨g, rfl, hG, hK⟩
end Go.Proofs.YtmjeojbdieaakaaDoor
