/-
  Contracts of layer 13 (frame): what is wrong, told by panic; a number, a text taken. No statement of the seed is proved here.
-/
import Derived.Test.YtibcjbelcplpjaaDoorRdT
import Derived.Test.YtibcjbelcplpjaaDoorRdE
import Derived.Test.YtibcjbelcplpjaaDoorPd
import Derived.WalkLawsBesides
namespace Go.Proofs.YtibcjbelcplpjaaDoor
open Go.RowKit
set_option linter.unusedVariables false

/-- What is thrown. -/
def thrown (e : Int) : Value := .iface 63 (.int .i64 e)
/-- A call that ends in a throw. -/
def Throw (er : Nat) (e : Ending) : Prop := e = .panicked [{ v := thrown er, recovered := false }]
theorem must_ok (w : World) : Calls Tryd.prog 35 #[.int .i64 0] w fun x w' => x = .returned (.tuple #[]) ∧ w = w' := by
  go_enter Tryd.func35, Tryd.ntmps35
  go_wp2
  go_end0
  exact ⟨rfl, rfl⟩
theorem must_no (e : Nat) (h : e ≠ 0) (w : World) : Calls Tryd.prog 35 #[.int .i64 (e : Int)] w fun x w' => Throw e x ∧ w = w' := by
  go_enter Tryd.func35, Tryd.ntmps35
  go_wp2
  exact ⟨rfl, rfl, rfl⟩
theorem fTn_yes (r : Nat) (bs : List UInt8) (k m : Nat) (w : World) (hr : Rea w r bs k) (hm1 : 1 ≤ m) (hm2 : m ≤ 2) (hk : k + m ≤ bs.length) :
    Calls Tryd.prog 49 #[.pointer (some ⟨r, 0, none⟩), .int .i64 (m : Int)] w fun e w' => e = .returned (.int .i64 ((num ((bs.drop k).take m) : Nat) : Int)) ∧ Took r bs k m w w' := by
  have ht : tnum (bs.drop k) (m : Int) = (num ((bs.drop k).take m), m, 0) := by
    unfold tnum
    rw [if_neg (by omega), if_neg (by rw [List.length_drop]; omega)]
    simp
  have hl : num ((bs.drop k).take m) < 65536 := by
    have h1 := num_lt ((bs.drop k).take m)
    have h2 : ((bs.drop k).take m).length = m := by rw [List.length_take, List.length_drop]; omega
    rw [h2] at h1
    rcases (by omega : m = 1 ∨ m = 2) with rfl | rfl <;> omega
  obtain ⟨X, hX⟩ : ∃ X, num ((bs.drop k).take m) = X := ⟨_, rfl⟩
  rw [hX] at ht hl ⊢
  have HT := Lib.hid ht
  clear ht hX
  go_enter Tryd.func49, Tryd.ntmps49
  go_wp2_with fail
  refine (rNum_any r bs k m _ hr).mono ?_
  rintro e w' ⟨x, d, er, h1, rfl, ht⟩
  obtain ⟨rfl, rfl, rfl⟩ : X = x ∧ m = d ∧ 0 = er := by
    have := HT.out.symm.trans h1
    simpa using this
  clear h1
  go_wp2_with (go_at_call 35; refine (must_ok _).mono ?_; rintro e w2 ⟨rfl, rfl⟩)
  go_ret
  exact ⟨rfl, ht⟩
theorem fTn_no (r : Nat) (bs : List UInt8) (k m : Nat) (w : World) (hr : Rea w r bs k) (hm1 : 1 ≤ m) (hm2 : m ≤ 2) (hk : bs.length < k + m) :
    Calls Tryd.prog 49 #[.pointer (some ⟨r, 0, none⟩), .int .i64 (m : Int)] w fun e w' => Throw 1 e ∧ Kept [r] w w' := by
  have ht : tnum (bs.drop k) (m : Int) = (0, 0, 1) := by
    unfold tnum
    rw [if_neg (by omega), if_pos (by rw [List.length_drop]; omega)]
  have HT := Lib.hid ht
  clear ht
  go_enter Tryd.func49, Tryd.ntmps49
  go_wp2_with fail
  refine (rNum_any r bs k m _ hr).mono ?_
  rintro e w' ⟨x, d, er, h1, rfl, ht⟩
  obtain ⟨rfl, rfl, rfl⟩ : 0 = x ∧ 0 = d ∧ 1 = er := by
    have := HT.out.symm.trans h1
    simpa using this
  clear h1
  go_wp2_with fail
  refine (must_no 1 (by omega) _).mono ?_
  rintro e w2 ⟨h2, rfl⟩
  unfold Throw at h2
  subst h2
  exact ⟨rfl, rfl, ht.kept⟩
theorem fTt_yes (r : Nat) (bs : List UInt8) (k d : Nat) (t : List UInt8) (w : World) (hr : Rea w r bs k) (ht : ttext (bs.drop k) 65536 = (t, d, 0)) :
    Calls Tryd.prog 50 #[.pointer (some ⟨r, 0, none⟩)] w fun e w' => ∃ v, e = .returned v ∧ Took r bs k d w w' ∧ OwB 5 w' v t ∧ ∀ g, v.ownBlock = some g → w.heap.size ≤ g := by
  have HT := Lib.hid ht
  clear ht
  go_enter Tryd.func50, Tryd.ntmps50
  go_wp2_with fail
  refine (rText_any r bs k 65536 _ hr (by omega) (by omega)).mono ?_
  rintro e w' ⟨t', v, d', er, h1, rfl, ht, ho, hf⟩
  obtain ⟨rfl, rfl, rfl⟩ : t = t' ∧ d = d' ∧ 0 = er := by
    have := HT.out.symm.trans h1
    simpa using this
  clear h1
  obtain ⟨A1, n1, c1, rfl, _, _⟩ := ho.form
  go_wp2_with (go_at_call 35; refine (must_ok _).mono ?_; rintro e w2 ⟨rfl, rfl⟩)
  go_ret
  exact ⟨_, rfl, ht, ho, hf⟩
theorem fTt_no (r : Nat) (bs : List UInt8) (k d : Nat) (t : List UInt8) (er : Nat) (w : World) (hr : Rea w r bs k) (ht : ttext (bs.drop k) 65536 = (t, d, er)) (her : er ≠ 0) :
    Calls Tryd.prog 50 #[.pointer (some ⟨r, 0, none⟩)] w fun e w' => Throw er e ∧ Kept [r] w w' := by
  have HT := Lib.hid ht
  clear ht
  go_enter Tryd.func50, Tryd.ntmps50
  go_wp2_with fail
  refine (rText_any r bs k 65536 _ hr (by omega) (by omega)).mono ?_
  rintro e w' ⟨t', v, d', er', h1, rfl, ht, ho, hf⟩
  obtain ⟨rfl, rfl, rfl⟩ : t = t' ∧ d = d' ∧ er = er' := by
    have := HT.out.symm.trans h1
    simpa using this
  clear h1
  obtain ⟨A1, n1, c1, rfl, _, _⟩ := ho.form
  go_wp2_with fail
  refine (must_no er her _).mono ?_
  rintro e w2 ⟨h2, rfl⟩
  unfold Throw at h2
  subst h2
  exact ⟨rfl, rfl, ht.kept⟩
end Go.Proofs.YtibcjbelcplpjaaDoor
