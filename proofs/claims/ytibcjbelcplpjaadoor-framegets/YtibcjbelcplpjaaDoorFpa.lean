/-
  Contract of layer 13 (frame): Put. No statement of the seed is proved here.
-/
import Derived.Test.YtibcjbelcplpjaaDoorFp4
import Derived.Test.YtibcjbelcplpjaaDoorFp7
import Derived.Test.YtibcjbelcplpjaaDoorPd
namespace Go.Proofs.YtibcjbelcplpjaaDoor
open Go.RowKit
set_option linter.unusedVariables false

/-- What some work told: nothing, or what is wrong. -/
def Told (er : Nat) (e : Ending) : Prop := (er = 0 ∧ e = .returned (.tuple #[])) ∨ (er ≠ 0 ∧ Throw er e)
set_option maxRecDepth 100000 in
set_option maxHeartbeats 4000000 in
theorem fPt1_any (key : List UInt8) (f : Fr) (A : Option Addr) (n c a g h : Nat) (w : World) (hkl : key.length = 32) (hA : Blk w a 23 (bvs key)) (hG : Blk w g 28 (frc f A n c)) (hF : FrAt w f A n c) (hH : Blk w h 26 [.slice none 0 0]) (hgl : Glob w) :
    Calls Tryd.prog 21 #[.pointer (some ⟨a, 0, none⟩), .pointer (some ⟨g, 0, none⟩), .pointer (some ⟨h, 0, none⟩)] w fun e w' => ∃ er : Nat, Told er e ∧ Kept [h] w w' ∧ er = (frPut key f).2 ∧ ∃ v, Blk w' h 26 [v] ∧ OwB 5 w' v (frPut key f).1 ∧ ∀ q, v.ownBlock = some q → w.heap.size ≤ q := by
  have HA := Lib.hid hA
  have HG := Lib.hid hG
  have HH := Lib.hid hH
  have HF := Lib.hid hF
  have Hgl := Lib.hid hgl
  have Hsk := Lib.hid (size_of_len (P := Tryd.prog) (ty := 23) size32 hkl)
  have Hsf := Lib.hid (frc_size (A := A) (n := n) (c := c) hF.obj)
  obtain ⟨L, hL⟩ : ∃ L, frc f A n c = L := ⟨_, rfl⟩
  have HL := Lib.hid hL
  rw [hL] at HG Hsf
  clear hA hG hH hF hgl hL
  cases hR : frRight f with
  | false =>
    rw [frPut_no hR]
    have HC := Lib.hid (fun W (hW : FrAt W f A n c) => fput_no key f A n c W hW hR)
    rw [HL.out] at HC
    clear hR
    go_enter Tryd.func21, Tryd.ntmps21
    go_wp2_with (first
      | (with_reducible change wpList _ _ _ (⟨_, Op.load 23 _, _, _, _, _⟩ :: _) _ _; refine wpList_load_blk rfl 23 (.tmp 0) rfl a rfl 23 _ _ HA.out arr32b rfl Hsk.out ?_)
      | (with_reducible change wpList _ _ _ (⟨_, Op.load 28 _, _, _, _, _⟩ :: _) _ _; refine wpList_load_blk rfl 28 (.tmp 1) rfl g rfl 28 _ _ HG.out Tryd.underlying28 rfl Hsf.out ?_))
    refine (HC.out _ HF.out).mono ?_
    rintro e w1 ⟨h2, hk1⟩
    unfold Throw at h2
    subst h2
    exact ⟨rfl, 14, .inr ⟨by omega, rfl⟩, hk1.mono (by simp), rfl, _, HH.out.kept0 hk1, OwB.nil _ _, by simp [Value.ownBlock]⟩
  | true =>
    rw [frPut_ok hR]
    have HC := Lib.hid (fun W (hW : FrAt W f A n c) (hg : Glob W) => fput_yes key f A n c W hkl hW hR hg)
    rw [HL.out] at HC
    obtain ⟨X, hX⟩ : ∃ X, frPlain f ++ hTag key (frPlain f) = X := ⟨_, rfl⟩
    rw [hX] at HC ⊢
    clear hR hX
    go_enter Tryd.func21, Tryd.ntmps21
    go_wp2_with (first
      | (with_reducible change wpList _ _ _ (⟨_, Op.load 23 _, _, _, _, _⟩ :: _) _ _; refine wpList_load_blk rfl 23 (.tmp 0) rfl a rfl 23 _ _ HA.out arr32b rfl Hsk.out ?_)
      | (with_reducible change wpList _ _ _ (⟨_, Op.load 28 _, _, _, _, _⟩ :: _) _ _; refine wpList_load_blk rfl 28 (.tmp 1) rfl g rfl 28 _ _ HG.out Tryd.underlying28 rfl Hsf.out ?_))
    refine (HC.out _ HF.out Hgl.out).mono ?_
    rintro e w1 ⟨v1, rfl, ho1, hk1, hf1⟩
    have hH1 := HH.out.kept0 hk1
    have c0 : w1.cell? ⟨h, 0, none⟩ = some (.slice none 0 0) := hH1.cell 0
    have f0 := hH1.frz 0
    obtain ⟨A1, n1, c1, rfl, _, _⟩ := ho1.form
    have HH1 := Lib.hid hH1
    have HO1 := Lib.hid ho1
    have HK1 := Lib.hid hk1
    have HF1 := Lib.hid hf1
    have Hh : Hid (h < w.heap.size) := Lib.hid HH.out.lt
    clear hH1 ho1 hk1 hf1
    go_wp2
    go_end0
    have hks : Kept [h] w1 (w1.setCell ⟨h, 0, none⟩ (.slice A1 n1 c1)) := (Kept.refl [h] w1).setCell (.inl (by simp)) _
    refine ⟨0, .inl ⟨rfl, rfl⟩, (HK1.out.mono (by simp)).trans hks (fun i hi => .inl hi), rfl, .slice A1 n1 c1, HH1.out.set 0 (.slice A1 n1 c1), HO1.out.kept hks (fun q hq => ?_), HF1.out⟩
    have h1 := HF1.out q hq
    have h2 := Hh.out
    simp
    omega
end Go.Proofs.YtibcjbelcplpjaaDoor
