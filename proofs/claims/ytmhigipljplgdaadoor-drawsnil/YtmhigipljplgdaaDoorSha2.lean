/-
  Contract of the function that tells a word in four bytes, layer 2 (sha). No statement of the seed is proved here.
-/
import Derived.Test.YtmhigipljplgdaaDoorSha1
import Derived.Test.YtmhigipljplgdaaDoorBlk
namespace Go.Proofs.YtmhigipljplgdaaDoor
open Go.RowKit
set_option linter.unusedVariables false

theorem putWord_any (g off n c : Nat) (t : TypeId) (cs : List Value) (x : W32) (w : World) (hb : Blk w g t cs) (hn : 4 ≤ n) (hc : n ≤ c) (ho : off + 4 ≤ cs.length) :
    Calls Tryd.prog 33 #[.slice (some ⟨g, off, none⟩) n c, .int .u32 (wv x)] w (SetRet g t (splice cs off (bvs (be 4 x.toNat))) w) := by
  have hl4 := be_length 4 x.toNat
  have b0 := wv_nonneg x
  have b1 := wv_lt x
  go_enter Tryd.func33, Tryd.ntmps33
  go_wp2
  go_loopw [5] (fun i wr => ∃ k : Nat, k ≤ 4 ∧ i = .int .i64 k ∧ Blk wr g t (splice cs off (bvs ((be 4 x.toNat).take k))) ∧ Kept [g] w wr) (fun i _ => 4 - (intOf i).toNat)
  case atStart => exact ⟨0, by omega, rfl, by simpa [bvs, splice_nil] using hb, Kept.refl _ _⟩
  case round =>
    obtain ⟨k, hk, rfl, hB, hK⟩ := hrel
    by_cases hlt : k < 4
    · have hlen : (bvs ((be 4 x.toNat).take k)).length = k := by rw [bvs_length, List.length_take]; omega
      have hsl := length_splice cs off (bvs ((be 4 x.toNat).take k)) (by omega)
      have c1 := hB.cellD (off + k) (by omega)
      generalize (splice cs off (bvs ((be 4 x.toNat).take k)))[off + k]'(by omega) = u at c1
      have f1 := hB.frz (off + k)
      have hnew := hB.set (off + k) (bcell (UInt8.ofNat (x.toNat / 2 ^ (24 - 8 * k))))
      have hsn := splice_snoc cs off (bvs ((be 4 x.toNat).take k)) (bcell (UInt8.ofNat (x.toNat / 2 ^ (24 - 8 * k)))) (by omega)
      rw [hlen] at hsn
      rw [hsn] at hnew
      have htk : bvs ((be 4 x.toNat).take k) ++ [bcell (UInt8.ofNat (x.toNat / 2 ^ (24 - 8 * k)))] = bvs ((be 4 x.toNat).take (k + 1)) := by
        rw [take_step _ k _ (be4_get _ k hlt), bvs_append]; rfl
      rw [htk] at hnew
      have hbw := byteW x (24 - 8 * k)
      have hbc : bcell (UInt8.ofNat (x.toNat / 2 ^ (24 - 8 * k))) = .int .u8 (wv x / 2 ^ (24 - 8 * k) % 256) := by unfold bcell; rw [hbw]
      rw [hbc] at hnew
      have hkn : Kept [g] w (wr.setCell ⟨g, off + k, none⟩ (.int .u8 (wv x / 2 ^ (24 - 8 * k) % 256))) := hK.setCell (by simp) _
      clear hlen hsl hsn htk hbw hbc hB hb
      go_wp2
      go_roundw
      case rel => exact ⟨k + 1, by omega, by go_num, hnew, hkn⟩
      case measure => simp [intOf]; omega
    · obtain rfl : k = 4 := by omega
      rw [List.take_of_length_le (by omega)] at hB
      go_wp2
      go_end0
      exact ⟨rfl, hB, hK⟩
end Go.Proofs.YtmhigipljplgdaaDoor
