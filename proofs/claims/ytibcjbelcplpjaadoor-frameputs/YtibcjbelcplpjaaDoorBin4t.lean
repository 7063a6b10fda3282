/-
  Contract of the writer's Text of layer 1 (bin), over this seat's program. No statement of the seed is proved here.
-/
import Derived.Test.YtibcjbelcplpjaaDoorBin3
import Derived.WalkSpells
namespace Go.Proofs.YtibcjbelcplpjaaDoor
open Go.RowKit
set_option linter.unusedVariables false

theorem wText_nil (A : Option Addr) (n c : Nat) (w : World) : Calls Tryd.prog 38 #[.pointer none, .slice A n c] w fun e w' => e = .returned (.int .i64 15) ∧ w = w' := by
  go_enter Tryd.func38, Tryd.ntmps38
  go_wp2
  go_ret
  exact ⟨rfl, rfl⟩
theorem wText_full (p : Nat) (A : Option Addr) (n c : Nat) (w : World) (h : 65536 < n) : Calls Tryd.prog 38 #[.pointer (some ⟨p, 0, none⟩), .slice A n c] w fun e w' => e = .returned (.int .i64 7) ∧ w = w' := by
  go_enter Tryd.func38, Tryd.ntmps38
  go_wp2
  go_ret
  exact ⟨rfl, rfl⟩
theorem wText_any (p : Nat) (F : List Nat) (xs : List UInt8) (A : Option Addr) (n c : Nat) (bs : List UInt8) (w : World) (hw : Wri w p F xs) (hr : RdB w A n c bs) (hoff : 0 < n → Off A F) (hn : n ≤ 65536) (hb : xs.length ≤ 140737488200000) :
    Calls Tryd.prog 38 #[.pointer (some ⟨p, 0, none⟩), .slice A n c] w (PutRet p F xs (sm n ++ bs) w (.int .i64 0)) := by
  have hs := sm_length n
  have hf : fol n ≤ 8 := by unfold fol; split; omega; exact (wid_pos n).2
  go_enter Tryd.func38, Tryd.ntmps38
  go_wp2_with fail
  refine (putSmall_any p F _ n _ hw (by omega) (by omega) (by omega)).mono ?_
  rw [Int.toNat_natCast]
  rintro e w1 ⟨rfl, F1, hP1⟩
  go_wp2_with fail
  refine (put_any p F1 _ A n c bs _ hP1.wri (hr.keptIf hP1.kept hoff) (by rw [List.length_append]; omega)).mono ?_
  rintro e w2 ⟨rfl, F2, hP2⟩
  go_wp2
  go_ret
  exact ⟨rfl, F2, hP1.trans hP2⟩
end Go.Proofs.YtibcjbelcplpjaaDoor
