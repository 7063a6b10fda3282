/-
  Contracts of layer 7 (gf), going on: a text multiplied. No statement of the seed is proved here.
-/
import Derived.Test.YtmoelakdfgggfaaGf3
namespace Go.Proofs.Ytmoelakdfgggfaa
open Go.RowKit
set_option linter.unusedVariables false

theorem scale7_nil (z : Int) (A : Option Addr) (n cc : Nat) (w : World) : Calls Try.prog 24 #[.pointer none, .int .u8 z, .slice A n cc] w fun e w' => e = .returned (.slice none 0 0) ∧ w' = w := by
  go_enter Try.func24, Try.ntmps24
  go_wp2
  go_ret
  exact ⟨rfl, rfl⟩
set_option maxHeartbeats 1000000 in
theorem scale7_any (p : Nat) (c : UInt8) (z : Int) (A : Option Addr) (n cc : Nat) (text : List UInt8) (w : World) (hT : TabAt w p) (hz : z = (c.toNat : Int)) (hr : RdB w A n cc text) (hn : n ≤ 1000000) :
    Calls Try.prog 24 #[.pointer (some ⟨p, 0, none⟩), .int .u8 z, .slice A n cc] w (RowRet (gscale c text) w) := by
  subst hz
  have HT := Lib.hid hT
  have HR := Lib.hid hr
  have Hl := Lib.hid hr.len
  have Hpl := Lib.hid hT.lt
  obtain ⟨i0, hi0, hz0, hz1, hz2⟩ := info_parts u8info
  clear hT hr
  go_enter Try.func24, Try.ntmps24
  go_wp2_with (with_reducible change wpList _ _ _ (⟨_, Op.makeSlice _ _ _, _, _, _, _⟩ :: _) _ _; refine wpList_make_bytes rfl (.tmp 11) (.tmp 11) 35 rfl 5 i0 Try.underlying35 hi0 hz0 hz1 hz2 _ _ _ _ n rfl rfl rfl rfl (by omega) ?_)
  intro w1 ho1 hk1
  have hB1 := ho1.blk
  have hgl := ho1.lt
  obtain ⟨g, hg⟩ : ∃ g, g = w.heap.size := ⟨_, rfl⟩
  rw [← hg] at hB1 ⊢
  have HB := Lib.hid hB1
  have HK := Lib.hid hk1
  have Hg := Lib.hid hg
  clear ho1 hB1 hk1 hg hgl
  go_wp2_with fail
  refine (add7_any p g n (List.replicate n 0) c _ A n cc text _ (HT.out.kept0 HK.out) rfl HB.out List.length_replicate (HR.out.kept0 HK.out) rfl (fun h a ha hin => by
    obtain ⟨b, off, e, hb, _⟩ := HR.out.at_ h
    rw [e] at ha; injection ha with ha; subst ha
    have h1 : b = g := by simpa using hin
    have := Hg.out; omega) (by have := Hpl.out; have := Hg.out; omega)).mono ?_
  rintro e w2 ⟨rfl, hB2, hk2⟩
  rw [show gadd (List.replicate n 0) c text = gscale c text by rw [← Hl.out]; exact gadd_zeros c text] at hB2
  have hKK : Kept [] w w2 := HK.out.trans hk2 (by simp; have := Hg.out; omega)
  go_wp2
  go_ret
  exact ⟨g, n, rfl, hB2, by rw [gscale_length]; exact Hl.out, by have := Hg.out; omega, hKK⟩
end Go.Proofs.Ytmoelakdfgggfaa
