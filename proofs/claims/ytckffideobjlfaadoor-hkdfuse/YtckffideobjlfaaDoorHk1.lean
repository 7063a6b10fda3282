/-
  Contracts of two functions of Go's library: room for n bytes; texts, one behind the other. No statement of the seed is proved here.
-/
import Derived.Test.YtckffideobjlfaaDoorGen3
import Derived.Test.YtckffideobjlfaaDoorAppZ
import Derived.Test.YtckffideobjlfaaDoorBin2n
namespace Go.Proofs.YtckffideobjlfaaDoor
open Go.RowKit
set_option linter.unusedVariables false

set_option maxRecDepth 100000 in
set_option maxHeartbeats 1000000 in
theorem grow_any (n : Nat) (z : Int) (w : World) (hz : z = (n : Int)) (hn : n ≤ 1000000) :
    Calls Tryd.prog 30 #[.slice none 0 0, .int .i64 z] w (CloneRet [] w) := by
  subst hz
  obtain ⟨i0, hi, hz0, hz1, hz2⟩ := info_parts u8info
  rcases Nat.eq_zero_or_pos n with h0 | h0
  · subst h0
    go_enter Tryd.func30, Tryd.ntmps30
    go_wp2
    go_ret
    exact ⟨_, rfl, OwB.nil _ _, Kept.refl _ _, by simp [Value.ownBlock]⟩
  · have hcut := fun A n c W => run_cut_first (P := Tryd.prog) 22 5 Tryd.underlying22 size1b A n c 0 0 rfl (Nat.zero_le _) W
    go_enter Tryd.func30, Tryd.ntmps30
    go_wp2_with (at_builtin; refine wpList_append_zeros rfl (.tmp 20) (.tmp 21) 22 3 rfl 5 _ i0 Tryd.underlying22 Tryd.underlying3 hi hz0 hz1 hz2 (.slice none 0 0) [] rfl (OwB.nil _ _) _ _ n rfl (by omega) hn (by simp) ?_)
    intro v1 w1 ho1 hk1 hm1
    obtain ⟨A2, n2, c2, rfl, hr2, hb2⟩ := ho1.form
    have ho2 := ho1.cut 0 (Nat.zero_le _)
    rw [List.take_zero] at ho2
    have hK : Kept [] w w1 := by simpa [Value.ownBlock] using hk1
    clear hr2 hb2 ho1
    go_wp2
    go_ret
    refine ⟨_, rfl, ho2, hK, ?_⟩
    intro g hg
    have hg2 : (Value.slice A2 n2 c2).ownBlock = some g := by
      change (Value.slice A2 0 c2).ownBlock = some g at hg
      cases A2
      · simp [Value.ownBlock] at hg
      · exact hg
    rcases hm1 g hg2 with h | h
    · simp [Value.ownBlock] at h
    · exact h

theorem flat_step (ls : List (List UInt8)) (k : Nat) (l : List UInt8) (h : ls[k]? = some l) : (ls.take (k + 1)).flatten = (ls.take k).flatten ++ l := by
  rw [take_step ls k l h, List.flatten_append]; simp
theorem flat_part (ls : List (List UInt8)) (k : Nat) : (ls.take k).flatten.length ≤ ls.flatten.length := by
  have := congrArg (fun x => (List.flatten x).length) (List.take_append_drop k ls)
  simp only [List.flatten_append, List.length_append] at this
  omega

set_option maxRecDepth 100000 in
set_option maxHeartbeats 1000000 in
theorem concat_any (A : Option Addr) (n c : Nat) (ls : List (List UInt8)) (w : World) (hp : RdL w A n c ls) (hm : ls.flatten.length ≤ 1000000) :
    Calls Tryd.prog 21 #[.slice A n c] w (CloneRet ls.flatten w) := by
  obtain ⟨i0, hi, hz0, hz1, hz2⟩ := info_parts u8info
  have hln := hp.len
  have hcap := hp.cap
  have hmost := hp.most
  unfold maxLen at hmost
  have Hln := Lib.hid hln
  have Hm := Lib.hid hm
  clear hln hm
  go_enter Tryd.func21, Tryd.ntmps21
  go_wp2
  go_loopw [3, 11] (fun v i wr => ∃ (k m : Nat), k ≤ n ∧ i = .int .i64 k ∧ v = .int .i64 m ∧ m ≤ 1000000 ∧ Hid ((ls.take k).flatten.length = m) ∧ w = wr) (fun _ i _ => n - (intOf i).toNat)
  case atStart => exact ⟨0, 0, by omega, rfl, rfl, by omega, Lib.hid (by simp), rfl⟩
  case round =>
    obtain ⟨k, m, hk, rfl, rfl, hm, HM, rfl⟩ := hrel
    by_cases hlt : k < n
    · obtain ⟨b, off, rfl, hbl, hcs⟩ := hp.cells (by omega)
      have hkl : k < ls.length := by have := Hln.out; omega
      obtain ⟨Aj, nj, cj, c0, hrj0⟩ := hcs k hkl
      have HM2 : Hid ((ls.take (k + 1)).flatten.length = m + nj) := Lib.hid (by rw [flat_step ls k ls[k] (List.getElem?_eq_getElem hkl), List.length_append, HM.out, hrj0.len])
      have hm2 : m + nj ≤ 1000000 := by have := flat_part ls (k + 1); have := HM2.out; have := Hm.out; omega
      clear hcs hrj0
      go_wp2
      go_roundw
      case rel => exact ⟨k + 1, m + nj, by omega, by go_num, by go_num, hm2, HM2, by first | rfl | trivial⟩
      case measure => simp [intOf]; omega
    · obtain rfl : n = k := by omega
      have hm0 : m ≤ 1000000 := hm
      clear HM
      go_wp2_with fail
      refine (grow_any m _ _ rfl hm0).mono ?_
      rintro e w1 ⟨v1, rfl, ho1, hk1, hb1⟩
      obtain ⟨A1, n1, c1, rfl, _, _⟩ := ho1.form
      have Hb1 := Lib.hid hb1
      clear hb1
      go_wp2
      go_loopw [6, 27] (fun v i wr => ∃ (k : Nat) (A5 : Option Addr) (n5 c5 : Nat), k ≤ n ∧ i = .int .i64 k ∧ v = .slice A5 n5 c5 ∧ OwB 5 wr (.slice A5 n5 c5) (ls.take k).flatten ∧ Kept [] w wr ∧ Hid (∀ g, (Value.slice A5 n5 c5).ownBlock = some g → w.heap.size ≤ g)) (fun _ i _ => n - (intOf i).toNat)
      case atStart => exact ⟨0, A1, n1, c1, by omega, rfl, rfl, by simpa using ho1, hk1, Hb1⟩
      case round =>
        obtain ⟨k, A5, n5, c5, hk, rfl, rfl, ho5, hK5, Hb5⟩ := hrel
        clear ho1 hk1 Hb1
        by_cases hlt : k < n
        · obtain ⟨b, off, rfl, hbl, hcs⟩ := hp.cells (by omega)
          have hkl : k < ls.length := by have := Hln.out; omega
          obtain ⟨Aj, nj, cj, c0, hrj0⟩ := hcs k hkl
          have c1 := (hK5.cell (p := ⟨b, off + k, none⟩) hbl (by simp)).trans c0
          have HS := Lib.hid (flat_step ls k ls[k] (List.getElem?_eq_getElem hkl))
          have HL : Hid ((ls.take k).flatten.length + nj ≤ 1000000) := Lib.hid (by
            have h1 := flat_part ls (k + 1); rw [HS.out, List.length_append, hrj0.len] at h1; have := Hm.out; omega)
          have hrj := hrj0.kept0 hK5
          generalize ls[k] = tk at *
          clear hcs c0 hrj0
          go_wp2_with (at_builtin; refine wpList_append_bytes rfl (.tmp 31) (.tmp 32) 22 rfl 5 i0 _ 1 Tryd.underlying22 hi hz0 hz1 hz2 rfl (.slice A5 n5 c5) _ rfl ho5 Aj nj cj tk rfl hrj (by have := HL.out; simp only [maxLen]; omega) (by have := HL.out; omega) ?_)
          intro v8 w8 ho8 hk8 hm8
          obtain ⟨hK8, hb8⟩ := app_new hK5 Hb5.out hk8 hm8
          rw [← HS.out] at ho8
          obtain ⟨A8, n8, c8, rfl, _, _⟩ := ho8.form
          have Hb8 := Lib.hid hb8
          clear hb8 hk8 hm8 Hb5 HS HL hrj hK5 ho5 c1
          go_wp2
          go_roundw
          case rel => exact ⟨k + 1, A8, n8, c8, by omega, by go_num, rfl, ho8, hK8, Hb8⟩
          case measure => simp [intOf]; omega
        · obtain rfl : n = k := by omega
          rw [List.take_of_length_le (by have := Hln.out; omega)] at ho5
          go_wp2
          go_ret
          exact ⟨_, rfl, ho5, hK5, Hb5.out⟩
end Go.Proofs.YtckffideobjlfaaDoor
