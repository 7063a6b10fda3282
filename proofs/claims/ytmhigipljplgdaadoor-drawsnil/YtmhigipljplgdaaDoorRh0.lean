/-
  Contract of the document's own: a digest's bytes. No statement of the seed is proved here.
-/
import Derived.Test.YtmhigipljplgdaaDoorRf6
namespace Go.Proofs.YtmhigipljplgdaaDoor
open Go.RowKit
set_option linter.unusedVariables false

def slenH : Value → Nat
  | .slice _ n _ => n
  | _ => 0

set_option maxRecDepth 100000 in
set_option maxHeartbeats 1000000 in
theorem rBytes_any (bs : List UInt8) (w : World) (hl : bs.length = 32) :
    Calls Tryd.prog 19 #[.agg (bvs bs).toArray] w (CloneRet bs w) := by
  obtain ⟨i0, hi, hz0, hz1, hz2⟩ := info_parts u8info
  have hB := Blk.new w 32 (bvs bs)
  have hK1 : Kept [] w (w.alloc (.cells (bvs bs).toArray 32)) := (Kept.refl [] w).alloc _
  have hs1 : (w.alloc (.cells (bvs bs).toArray 32)).heap.size = w.heap.size + 1 := by simp
  have Hl := Lib.hid hl
  go_enter Tryd.func19, Tryd.ntmps19
  go_wp2_with (first
    | (with_reducible change wpList _ _ _ (⟨_, Op.box _ _, _, _, _, _⟩ :: _) _ _; refine Great.wpList_boxTo rfl 32 _ rfl _ rfl w.heap.size rfl (bvs bs).toArray rfl ?_; generalize w.alloc (.cells (bvs bs).toArray 32) = w1 at *)
    | (with_reducible change wpList _ _ _ (⟨_, Op.makeSlice _ _ _, _, _, _, _⟩ :: _) _ _; refine wpList_make_bytes rfl _ _ 53 rfl 5 i0 Tryd.underlying53 hi hz0 hz1 hz2 _ _ _ _ 32 rfl rfl rfl rfl (by omega) ?_))
  intro w2 hown2 hk2
  have hB2 := hB.kept0 hk2
  have hK2 := hK1.andThen hk2
  obtain ⟨g, hg⟩ : ∃ g, g = w.heap.size := ⟨_, rfl⟩
  obtain ⟨r, hr⟩ : ∃ r, r = w.heap.size + 1 := ⟨_, rfl⟩
  rw [← hr] at hown2 ⊢
  rw [← hg] at hB2 ⊢
  have hrg : g ≠ r := by omega
  have hrw : w.heap.size ≤ r := by omega
  clear hB hK1 hs1 hk2 hl hg hr
  go_wp2
  go_loopw [4] (fun i wr => ∃ k : Nat, k ≤ 32 ∧ i = .int .i64 k ∧ Blk wr g 32 (bvs bs) ∧ OwB 5 wr (.slice (some ⟨r, 0, none⟩) 32 32) (bs.take k ++ List.replicate (32 - k) 0) ∧ Kept [] w wr) (fun i _ => 32 - (intOf i).toNat)
  case atStart => exact ⟨0, by omega, rfl, hB2, by simpa using hown2, hK2⟩
  case round =>
    obtain ⟨k, hk, rfl, hB3, ho, hK⟩ := hrel
    clear hB2 hown2 hK2
    by_cases hlt : k < 32
    · have hkl : (bs.take k).length = k := by rw [List.length_take]; have := Hl.out; omega
      obtain ⟨y, hy⟩ : ∃ y, bs[k]? = some y := ⟨bs[k]'(by have := Hl.out; omega), List.getElem?_eq_getElem _⟩
      have c1 : wr.cell? ⟨g, k, none⟩ = some (.int .u8 (y.toNat : Int)) := by rw [hB3.cell, bvs, List.getElem?_map, hy]; rfl
      have hnew := ho.set k y
      have hse := set_mid (bs.take k) (32 - k) y (by omega)
      rw [hkl] at hse
      rw [hse, ← take_step bs k y hy, Nat.sub_sub] at hnew
      have hfz := ho.fz k
      obtain ⟨b3, off3, y3, e3, c3, _, _⟩ := ho.rd.byte (k := k) (by omega)
      simp only [Option.some.injEq, Addr.mk.injEq] at e3
      obtain ⟨rfl, rfl, _⟩ := e3
      rw [Nat.zero_add] at c3
      have hBn : Blk (wr.setCell ⟨r, k, none⟩ (.int .u8 (y.toNat : Int))) g 32 (bvs bs) := hB3.set_other k _ hrg
      have hkn : Kept [] w (wr.setCell ⟨r, k, none⟩ (.int .u8 (y.toNat : Int))) := hK.setCell (by right; exact hrw) _
      unfold bcell at hnew
      clear hse hkl hy hB3 ho hK
      go_wp2
      go_roundw
      case rel => exact ⟨k + 1, by omega, by go_num, hBn, hnew, hkn⟩
      case measure => simp [intOf]; omega
    · obtain rfl : k = 32 := by omega
      rw [List.take_of_length_le (by have := Hl.out; omega)] at ho
      go_wp2
      go_ret
      exact ⟨_, rfl, by simpa using ho, hK, by intro q hq; simp [Value.ownBlock] at hq; omega⟩

end Go.Proofs.YtmhigipljplgdaaDoor
