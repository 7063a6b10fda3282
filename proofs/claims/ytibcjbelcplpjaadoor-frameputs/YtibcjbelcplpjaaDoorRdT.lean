/-
  Contract of the reader's Text of layer 1 (bin), over this seat's program. No statement of the seed is proved here.
-/
import Derived.Test.YtibcjbelcplpjaaDoorRd1
import Derived.Test.YtibcjbelcplpjaaDoorPd
namespace Go.Proofs.YtibcjbelcplpjaaDoor
open Go.RowKit
set_option linter.unusedVariables false

/-- A text that was taken: new memory. -/
def TookText (r : Nat) (bs : List UInt8) (k : Nat) (most : Int) (w : World) (e : Ending) (w' : World) : Prop :=
  ∃ (t : List UInt8) (v : Value) (d er : Nat), ttext (bs.drop k) most = (t, d, er) ∧ e = .returned (.tuple #[v, .int .i64 er]) ∧ Took r bs k d w w' ∧ OwB 5 w' v t ∧ ∀ g, v.ownBlock = some g → w.heap.size ≤ g

theorem rText_any (r : Nat) (bs : List UInt8) (k : Nat) (most : Int) (w : World) (hr : Rea w r bs k) (hm1 : -9223372036854775808 ≤ most) (hm2 : most ≤ 9223372036854775807) :
    Calls Tryd.prog 64 #[.pointer (some ⟨r, 0, none⟩), .int .i64 most] w (TookText r bs k most w) := by
  obtain ⟨c1, f1, hbl⟩ := hr.cells
  have hkl := hr.le
  have hmx : 0 ≤ max most 0 := by omega
  have hmx2 : max most 0 ≤ 9223372036854775807 := by omega
  go_enter Tryd.func64, Tryd.ntmps64
  go_wp2_with fail
  refine (left_any r bs k _ hr).mono ?_
  rintro e w' ⟨A, nl, c, d, rfl, rfl, hrd, hoff⟩
  go_wp2_with fail
  refine (small_any A nl c (bs.drop k) (max most 0) _ (hrd.drewN d) hmx).mono ?_
  rintro e w1 ⟨x, s, er, ht, rfl, rfl⟩
  obtain ⟨hx, hs, hs5, he3, hz⟩ := tsm_facts ht
  have htt : ttext (bs.drop k) most = if er ≠ 0 then ([], 0, er) else if (bs.drop k).length - s < x then ([], 0, 1) else (((bs.drop k).drop s).take x, s + x, 0) := by
    unfold ttext; rw [ht]
  rw [List.length_drop] at hs htt
  have H := Lib.hid htt
  have hl := hrd.len
  rw [List.length_drop] at hl
  clear ht htt
  by_cases her : er = 0
  · subst her
    by_cases hsh : bs.length - k - s < x
    · have hg : (nl : Int) - (s : Int) < (x : Int) := by omega
      have hnl : s ≤ nl := by omega
      have hcm := hrd.most
      have hcc := hrd.cap
      unfold maxLen at hcm
      clear hz hl
      go_wp2
      go_ret2
      exact ⟨[], _, 0, 1, by rw [H.out, if_neg (by simp), if_pos hsh], rfl, took_none hr d, OwB.nil _ _, by simp [Value.ownBlock]⟩
    · have hg : (x : Int) ≤ (nl : Int) - (s : Int) := by omega
      have hnl : s + x ≤ nl := by omega
      have hcm := hrd.most
      have hcc := hrd.cap
      unfold maxLen at hcm
      have hT := took_some (d := s + x) hr d (by omega)
      have hlast : k + (s + x) ≤ bs.length := by omega
      clear hz hl
      rw [Int.natCast_add] at hT
      have hcut := (hrd.drop s (by omega)).take x (by omega)
      by_cases hcs : c = s
      · rw [if_pos hcs, hcs, Nat.sub_self] at hcut
        have HC := Lib.hid hcs
        have hx0 : x = 0 := by omega
        subst hx0
        obtain rfl : nl = s := by omega
        clear hcs
        obtain rfl : c = nl := HC.out
        go_wp2_with fail
        refine (clone_any _ _ _ _ _ (hcut.kept hT.kept hoff) (by omega)).mono ?_
        rintro e w2 ⟨v, rfl, ho, hk2, hf⟩
        go_wp2
        go_ret2
        refine ⟨_, v, _, 0, by rw [H.out, if_neg (by simp), if_neg hsh], rfl, ⟨hT.rea.kept0 hk2, hT.kept.andThen hk2⟩, ho, fun g hg => ?_⟩
        have := hf g hg
        have := hT.kept.size
        omega
      · rw [if_neg hcs] at hcut
        go_wp2_with fail
        refine (clone_any _ _ _ _ _ (hcut.kept hT.kept (off_add hoff s)) (by omega)).mono ?_
        rintro e w2 ⟨v, rfl, ho, hk2, hf⟩
        go_wp2
        go_ret2
        refine ⟨_, v, _, 0, by rw [H.out, if_neg (by simp), if_neg hsh], rfl, ⟨hT.rea.kept0 hk2, hT.kept.andThen hk2⟩, ho, fun g hg => ?_⟩
        have := hf g hg
        have := hT.kept.size
        omega
  · obtain ⟨rfl, rfl⟩ := hz her
    have hne : ((er : Int) != 0) = true := by simp; omega
    clear hz hl
    go_wp2
    go_ret2
    exact ⟨[], _, 0, er, by rw [H.out, if_pos her], rfl, took_none hr d, OwB.nil _ _, by simp [Value.ownBlock]⟩
end Go.Proofs.YtibcjbelcplpjaaDoor
