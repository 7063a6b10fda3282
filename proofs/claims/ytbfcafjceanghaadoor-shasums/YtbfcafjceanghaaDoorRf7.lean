/-
  Contract of the document's own digest of texts. No statement of the seed is proved here.
-/
import Derived.Test.YtbfcafjceanghaaDoorRf6
import Derived.Test.YtbfcafjceanghaaDoorSha9
namespace Go.Proofs.YtbfcafjceanghaaDoor
open Go.RowKit
set_option linter.unusedVariables false

set_option maxRecDepth 100000 in
set_option maxHeartbeats 2000000 in
theorem rSums_any (A : Option Addr) (n c : Nat) (ls : List (List UInt8)) (w : World) (hr : RdL w A n c ls) (hL : ls.flatten.length ≤ 1000000) :
    Calls Tryd.prog 12 #[.slice A n c] w (KeyRet (shaSum ls.flatten) w) := by
  obtain ⟨i0, hi, hz0, hz1, hz2⟩ := info_parts u8info
  have hlen := hr.len
  have hm := hr.most
  have hcc := hr.cap
  unfold maxLen at hm
  go_enter Tryd.func12, Tryd.ntmps12
  go_wp2_with (with_reducible change wpList _ _ _ (⟨_, Op.alloc _, _, _, _, _⟩ :: _) _ _; refine wpList_alloc_blk rfl 25 rfl _ zero32 ?_)
  intro w1 hR1 hk1 hs1
  have hr1 := hr.kept0 hk1
  clear hr
  go_wp2
  go_loopw [3, 4] (fun v i wr => ∃ (k : Nat) (A3 : Option Addr) (n3 c3 : Nat), k ≤ n ∧ i = .int .i64 k ∧ v = .slice A3 n3 c3 ∧ OwB 5 wr (.slice A3 n3 c3) (ls.take k).flatten ∧ Kept [] w1 wr ∧ Hid (∀ g, (Value.slice A3 n3 c3).ownBlock = some g → w1.heap.size ≤ g)) (fun _ i _ => n - (intOf i).toNat)
  case atStart => exact ⟨0, none, 0, 0, by omega, rfl, rfl, OwB.nil _ _, Kept.refl _ _, Lib.hid (by simp [Value.ownBlock])⟩
  case round =>
    obtain ⟨k, A3, n3, c3, hk, rfl, rfl, ho, hK, Hb⟩ := hrel
    by_cases hlt : k < n
    · obtain ⟨b, off, rfl, hb, hcs⟩ := hr1.cells (by omega)
      have hkl : k < ls.length := by omega
      obtain ⟨Aj, nj, cj, c0, hrj0⟩ := hcs k hkl
      have c1 := (hK.cell (p := ⟨b, off + k, none⟩) hb (by simp)).trans c0
      have hrj := hrj0.kept0 hK
      have hts : (ls.take (k + 1)).flatten = (ls.take k).flatten ++ ls[k] := by
        rw [take_step ls k ls[k] (List.getElem?_eq_getElem hkl), List.flatten_append]; simp
      have hbound : (ls.take k).flatten.length + nj ≤ 1000000 := by
        have e1 := hrj.len
        have e2 : ls.flatten = (ls.take (k + 1)).flatten ++ (ls.drop (k + 1)).flatten := by rw [← List.flatten_append, List.take_append_drop]
        have e3 := congrArg List.length e2
        rw [hts, List.length_append, List.length_append] at e3
        omega
      have Hts := Lib.hid hts
      have Hlen := Lib.hid hlen
      have HL := Lib.hid hL
      clear hcs hts c0 hrj0 hlen hL
      generalize ls[k] = tk at *
      go_wp2_with (at_builtin; refine wpList_append_bytes rfl (.tmp 11) (.tmp 15) 22 rfl 5 i0 _ 1 Tryd.underlying22 hi hz0 hz1 hz2 rfl (.slice A3 n3 c3) _ rfl ho Aj nj cj tk rfl hrj (by simp only [maxLen]; omega) (by omega) ?_)
      intro v6 w6 ho6 hk6 hm6
      obtain ⟨hK6, hb6⟩ := app_new hK Hb.out hk6 hm6
      rw [← Hts.out] at ho6
      obtain ⟨A4, n4, c4, rfl, hr4, _⟩ := ho6.form
      have Hb6 := Lib.hid hb6
      clear hr4 hb6 hk6 hm6 ho hK Hb hrj c1
      go_wp2
      go_roundw
      case rel => exact ⟨k + 1, A4, n4, c4, by omega, by go_num, rfl, ho6, hK6, Hb6⟩
      case measure => simp [intOf]; omega
    · obtain rfl : n = k := by omega
      rw [List.take_of_length_le (by omega)] at ho
      have hrd := ho.rd
      have hn3 : n3 ≤ 1000000 := by have := hrd.len; omega
      clear hlen hL
      go_wp2_with fail
      refine (rSum_any A3 n3 c3 _ _ hrd hn3).mono ?_
      rintro e w8 ⟨rfl, hk8⟩
      have hR8 := (hR1.kept0 hK).kept0 hk8
      have hK8 := (hk1.andThen hK).andThen hk8
      clear hrd ho hK Hb hr1 hR1
      go_wp2_with (with_reducible change wpList _ _ _ (⟨_, Op.store _ _ _, _, _, _, _⟩ :: _) _ _; refine wpList_store_blk rfl 25 (.tmp 2) (.tmp 18) rfl w.heap.size (bvs (shaSum ls.flatten)) rfl rfl 25 (zb 32) hR8 (key_size _) (key_zb _) (bvs_one _) ?_)
      intro w9 hR9 hk9 hs9
      go_wp2
      refine bodyPost_ret (results_blk rfl _ w.heap.size 25 _ _ rfl hR9 Tryd.underlying25 rfl (key_size _)) rfl ?_
      exact ⟨rfl, hK8.trans hk9 (by simp)⟩
end Go.Proofs.YtbfcafjceanghaaDoor
