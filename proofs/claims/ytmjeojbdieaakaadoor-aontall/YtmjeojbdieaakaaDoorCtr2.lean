/-
  Contract of layer 6 (ctr): a piece of a text, mixed with a block. No statement of the seed is proved here.
-/
import Derived.Test.YtmjeojbdieaakaaDoorCtr1
import Derived.Test.YtmjeojbdieaakaaDoorPb
namespace Go.Proofs.YtmjeojbdieaakaaDoor
open Go.RowKit
set_option linter.unusedVariables false

theorem getD_of_some {bs : List UInt8} {k : Nat} {y : UInt8} (h : bs[k]? = some y) : bs.getD k 0 = y := by rw [List.getD_eq_getElem?_getD, h]; rfl

set_option maxRecDepth 100000 in
set_option maxHeartbeats 1000000 in
theorem cmix_any (g off m : Nat) (T Z : List Value) (A : Option Addr) (c : Nat) (bs x : List UInt8) (w : World) (hG : Blk w g 5 (ovr T Z off)) (hTl : T.length = off + m) (hZl : Z.length = off + m) (hm : off + m ≤ 281474976710656)
    (hr : RdB w A m c bs) (hA : Off A [g]) (hx : x.length = 16)
    (hv : ∀ i, i < m → i < 16 → T[off + i]? = some (.int .u8 (bits .xor .u8 ((bs.getD i 0).toNat : Int) ((x.getD i 0).toNat : Int)))) :
    Calls Tryd.prog 47 #[.slice (some ⟨g, off, none⟩) m m, .slice A m c, .agg (bvs x).toArray] w fun e w' => e = .returned (.tuple #[]) ∧ Blk w' g 5 (ovr T Z (off + min m 16)) ∧ Kept [g] w w' := by
  have hgl := hG.lt
  have Hx := Lib.hid hx
  have Hv := Lib.hid hv
  have hcap := hr.cap
  have hmost := hr.most
  unfold maxLen at hmost
  have HL : Hid (T.length = Z.length) := Lib.hid (by omega)
  have HZ := Lib.hid hZl
  have hB := Blk.new w 58 (bvs x)
  have hK1 : Kept [g] w (w.alloc (.cells (bvs x).toArray 58)) := (Kept.refl [g] w).alloc _
  have hK0 : Kept [] w (w.alloc (.cells (bvs x).toArray 58)) := (Kept.refl [] w).alloc _
  have hG1 := hG.kept0 hK0
  obtain ⟨p, hp⟩ : ∃ p, p = w.heap.size := ⟨_, rfl⟩
  have npg : p ≠ g := by omega
  have P0 := Lib.hid hp
  rw [← hp] at hB
  have HR := Lib.hid hr
  have HA := Lib.hid hA
  obtain ⟨q, hq⟩ : ∃ q : Nat, q = min m 16 := ⟨_, rfl⟩
  have q1 : min (m : Int) 16 = (q : Int) := by omega
  have q2 : min (min (m : Int) (m : Int)) 16 = (q : Int) := by omega
  have hqm : q ≤ m := by omega
  have hq16 : q ≤ 16 := by omega
  rw [← hq]
  have hcase : ((16 : Nat) = q ∧ 16 < m) ∨ (m = q ∧ m ≤ 16) := by omega
  clear hG hr hA hx hv hK0 hp hTl hZl hq
  rcases hcase with ⟨rfl, h16⟩ | ⟨rfl, h16⟩
  · go_enter Tryd.func47, Tryd.ntmps47
    go_wp2_with (with_reducible change wpList _ _ _ (⟨_, Op.box _ _, _, _, _, _⟩ :: _) _ _; refine Great.wpList_boxTo rfl 58 _ rfl _ rfl p P0.out.symm (bvs x).toArray rfl ?_; generalize w.alloc (.cells (bvs x).toArray 58) = w1 at *)
    go_loopw [12] (fun i wr => ∃ k : Nat, k ≤ 16 ∧ i = .int .i64 (k : Int) ∧ Blk wr g 5 (ovr T Z (off + k)) ∧ Blk wr p 58 (bvs x) ∧ Kept [g] w wr) (fun i _ => 16 - (intOf i).toNat)
    case atStart => exact ⟨0, by omega, rfl, hG1, hB, hK1⟩
    case round =>
      clear hG1 hB hK1
      obtain ⟨k, hk, rfl, hG, hB, hK⟩ := hrel
      by_cases hlt : k < 16
      · have hr := HR.out.kept hK HA.out
        obtain ⟨b, o, y, rfl, c1, g1, _⟩ := hr.byte (k := k) (by omega)
        have c2 := (hB.cell k).trans (bvs_at (by have := Hx.out; omega))
        have hvn := Hv.out k (by omega) (by omega)
        rw [getD_of_some g1] at hvn
        generalize x.getD k 0 = z at *
        have hZ := HZ.out
        have hol := ovr_length (n := off + k) HL.out
        have cc := hG.cellD (off + k) (by omega)
        generalize (ovr T Z (off + k))[off + k]'(by omega) = u at cc
        have f1 := hG.frz (off + k)
        have hset := ovr_set (n := off + k) HL.out (by omega) hvn
        have hnew := hG.set (off + k) (.int .u8 (bits .xor .u8 (y.toNat : Int) (z.toNat : Int)))
        rw [hset] at hnew
        have hBn := hB.set_other (b := g) (off + k) (.int .u8 (bits .xor .u8 (y.toNat : Int) (z.toNat : Int))) npg
        have hKn : Kept [g] w (wr.setCell ⟨g, off + k, none⟩ (.int .u8 (bits .xor .u8 (y.toNat : Int) (z.toNat : Int)))) := hK.setCell (by left; simp) _
        have zk : (k : Int) < 16 := by omega
        have zm : (k : Int) < (m : Int) := by omega
        clear hr g1 hvn hol hset hG hB hK hZ
        go_wp2
        go_still_tail 11, (by kernel_rfl)
        change wpList _ _ _ _ _ wr.drew
        go_wp2
        go_roundw
        case rel => exact ⟨k + 1, by omega, by go_num, hnew, hBn, hKn.drewN 1⟩
        case measure => simp [intOf]; omega
      · obtain rfl : k = 16 := by omega
        clear hB
        go_wp2
        go_end0
        exact ⟨rfl, hG, hK⟩
  · go_enter Tryd.func47, Tryd.ntmps47
    go_wp2_with (with_reducible change wpList _ _ _ (⟨_, Op.box _ _, _, _, _, _⟩ :: _) _ _; refine Great.wpList_boxTo rfl 58 _ rfl _ rfl p P0.out.symm (bvs x).toArray rfl ?_; generalize w.alloc (.cells (bvs x).toArray 58) = w1 at *)
    go_loopw [12] (fun i wr => ∃ k : Nat, k ≤ m ∧ i = .int .i64 (k : Int) ∧ Blk wr g 5 (ovr T Z (off + k)) ∧ Blk wr p 58 (bvs x) ∧ Kept [g] w wr) (fun i _ => m - (intOf i).toNat)
    case atStart => exact ⟨0, by omega, rfl, hG1, hB, hK1⟩
    case round =>
      clear hG1 hB hK1
      obtain ⟨k, hk, rfl, hG, hB, hK⟩ := hrel
      by_cases hlt : k < m
      · have hr := HR.out.kept hK HA.out
        obtain ⟨b, o, y, rfl, c1, g1, _⟩ := hr.byte (k := k) (by omega)
        have c2 := (hB.cell k).trans (bvs_at (by have := Hx.out; omega))
        have hvn := Hv.out k (by omega) (by omega)
        rw [getD_of_some g1] at hvn
        generalize x.getD k 0 = z at *
        have hZ := HZ.out
        have hol := ovr_length (n := off + k) HL.out
        have cc := hG.cellD (off + k) (by omega)
        generalize (ovr T Z (off + k))[off + k]'(by omega) = u at cc
        have f1 := hG.frz (off + k)
        have hset := ovr_set (n := off + k) HL.out (by omega) hvn
        have hnew := hG.set (off + k) (.int .u8 (bits .xor .u8 (y.toNat : Int) (z.toNat : Int)))
        rw [hset] at hnew
        have hBn := hB.set_other (b := g) (off + k) (.int .u8 (bits .xor .u8 (y.toNat : Int) (z.toNat : Int))) npg
        have hKn : Kept [g] w (wr.setCell ⟨g, off + k, none⟩ (.int .u8 (bits .xor .u8 (y.toNat : Int) (z.toNat : Int)))) := hK.setCell (by left; simp) _
        have zk : (k : Int) < 16 := by omega
        have zm : (k : Int) < (m : Int) := by omega
        clear hr g1 hvn hol hset hG hB hK hZ
        go_wp2
        go_still_tail 11, (by kernel_rfl)
        change wpList _ _ _ _ _ wr.drew
        go_wp2
        go_roundw
        case rel => exact ⟨k + 1, by omega, by go_num, hnew, hBn, hKn.drewN 1⟩
        case measure => simp [intOf]; omega
      · obtain rfl : k = m := by omega
        clear hB
        go_wp2
        go_end0
        exact ⟨rfl, hG, hK⟩
end Go.Proofs.YtmjeojbdieaakaaDoor
