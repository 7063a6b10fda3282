/-
  Contract of a function of Go's library: a copy of a byte slice. No statement of the seed is proved here.
-/
import Derived.Test.YtibcjbelcplpjaaDoorChecked
import Derived.Test.YtibcjbelcplpjaaDoorPd
import Derived.Lib.Strings
import Derived.Lib.Small
import Derived.Lib.Walk
import Derived.WalkSpells
namespace Go.Proofs.YtibcjbelcplpjaaDoor
open Go.RowKit
set_option linter.unusedVariables false

theorem clone_any (A : Option Addr) (n c : Nat) (bs : List UInt8) (w : World) (hr : RdB w A n c bs) (hn : n ≤ 140737488355328) :
    Calls Tryd.prog 59 #[.slice A n c] w (CloneRet bs w) := by
  obtain ⟨i0, hi, hz0, hz1, hz2⟩ := info_parts u8info
  rcases A with _ | a
  · have hb : bs = [] := by
      have hl := hr.len
      rcases Nat.eq_zero_or_pos n with h0 | h0
      · exact List.eq_nil_of_length_eq_zero (by omega)
      · obtain ⟨b, off, e, _⟩ := hr.cells h0
        cases e
    subst hb
    have hnil := @Lib.run_eql_slice_nil Tryd.prog
    go_enter Tryd.func59, Tryd.ntmps59
    go_wp2
    go_ret
    exact ⟨_, rfl, OwB.nil _ _, Kept.refl _ _, by simp [Value.ownBlock]⟩
  · have hnil := @Lib.run_eql_slice_nil Tryd.prog
    have hown : OwB 5 (w.alloc (.cells #[] 5)) (.slice (some ⟨w.heap.size, 0, none⟩) 0 0) [] := by
      have := World.ownsRow_lit (base := 0) (e := 5) (size := 1) w #[] 0 (Nat.zero_le _) (by simp [maxLen]) rfl
      simpa [OwB, bvs] using this
    go_enter Tryd.func59, Tryd.ntmps59
    go_wp2_with (at_builtin; refine wpList_append_bytes rfl (.tmp 5) (.tmp 6) 26 rfl 5 i0 _ 1 Tryd.underlying26 hi hz0 hz1 hz2 rfl (.slice (some ⟨w.heap.size, 0, none⟩) 0 0) [] rfl hown (some a) n c bs rfl (hr.alloc _) (by simp only [maxLen, List.length_nil]; omega) (by simp only [List.length_nil]; omega) ?_; intro v1 w1 hown1 hk1 hm1)
    go_ret
    refine ⟨_, rfl, by simpa using hown1, ?_, ?_⟩
    · exact ((Kept.refl [] w).alloc _).trans hk1 (by simp [Value.ownBlock])
    · intro g hg
      rcases hm1 g hg with h | h
      · simp [Value.ownBlock] at h; omega
      · simp at h; omega
end Go.Proofs.YtibcjbelcplpjaaDoor
