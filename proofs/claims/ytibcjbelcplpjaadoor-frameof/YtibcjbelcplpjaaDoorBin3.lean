/-
  Contracts of the writer's functions of layer 1 (bin), over this seat's program, going on. No statement of the seed is proved here.
-/
import Derived.Test.YtibcjbelcplpjaaDoorBin2
import Derived.Test.YtibcjbelcplpjaaDoorBin2n
namespace Go.Proofs.YtibcjbelcplpjaaDoor
open Go.RowKit
set_option linter.unusedVariables false

theorem putSmall_any (p : Nat) (F : List Nat) (xs : List UInt8) (x : Int) (w : World) (hw : Wri w p F xs) (h0 : 0 ≤ x) (h1 : x ≤ 18446744073709551615) (hb : xs.length ≤ 140737488354000) :
    Calls Tryd.prog 57 #[.pointer (some ⟨p, 0, none⟩), .int .u64 x] w (PutRet p F xs (sm x.toNat) w (.tuple #[])) := by
  by_cases h : x ≤ 250
  · have hs : sm x.toNat = [UInt8.ofNat x.toNat] := by unfold sm; rw [if_pos (by omega)]
    rw [hs]
    clear hs
    go_enter Tryd.func57, Tryd.ntmps57
    go_wp2_with fail
    refine (follow_lo x _ h0 h).mono ?_
    rintro e w1 ⟨rfl, rfl⟩
    go_wp2_with fail
    refine (put_any p F _ _ 1 1 [UInt8.ofNat x.toNat] _ (hw.alloc _) (RdB.one _ _ _ _ (by rw [ofNat_toNat]; omega)) (by omega)).mono ?_
    rintro e w1 ⟨rfl, F1, hP1⟩
    go_wp2
    refine bodyPost_ret (results_none rfl _ _ _) rfl ?_
    exact ⟨rfl, F1, hP1.alloc⟩
  · have hw8 := wid_pos x.toNat
    have hne : ((wid x.toNat : Int) == 0) = false := by simp; omega
    have hs : sm x.toNat = [UInt8.ofNat (250 + wid x.toNat)] ++ be (wid x.toNat) x.toNat := by unfold sm; rw [if_neg (by omega)]; rfl
    rw [hs]
    clear hs
    go_enter Tryd.func57, Tryd.ntmps57
    go_wp2_with fail
    refine (follow_hi x _ (by omega) h1).mono ?_
    rintro e w1 ⟨rfl, rfl⟩
    go_wp2_with fail
    refine (put_any p F _ _ 1 1 [UInt8.ofNat (250 + wid x.toNat)] _ (hw.alloc _) (RdB.one _ _ _ _ (by rw [ofNat_toNat]; omega)) (by omega)).mono ?_
    rintro e w1 ⟨rfl, F1, hP1⟩
    go_wp2_with fail
    refine (putNumber_any p F1 _ x _ _ hP1.wri h0 h1 (by omega) (by rw [List.length_append, List.length_singleton]; omega)).mono ?_
    rintro e w2 ⟨rfl, F2, hP2⟩
    go_wp2
    go_end0
    exact ⟨rfl, F2, hP1.alloc.trans hP2⟩
end Go.Proofs.YtibcjbelcplpjaaDoor
