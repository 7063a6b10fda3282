/-
  Contracts of layer 4 (hkdf): is a text a use's name, by the program and by the document. No statement of the seed is proved here.
-/
import Derived.Test.YtckffideobjlfaaDoorRk2
import Derived.Test.YtckffideobjlfaaDoorStr
namespace Go.Proofs.YtckffideobjlfaaDoor
open Go.RowKit
set_option linter.unusedVariables false

/-- A sign that a name may have. -/
def okSign (b : UInt8) : Bool := decide (32 ≤ b.toNat) && decide (b.toNat ≤ 126)
@[irreducible] def nameOk (l : List UInt8) : Bool := l.all okSign && decide (1 ≤ l.length) && decide (l.length ≤ 40)
theorem nameOk_bad {l : List UInt8} {k : Nat} {b : UInt8} (h : l[k]? = some b) (hb : okSign b = false) : nameOk l = false := by
  unfold nameOk
  have : l.all okSign = false := by
    rw [List.all_eq_false]
    exact ⟨b, List.mem_of_getElem? h, by rw [hb]; simp⟩
  rw [this]; rfl
theorem nameOk_long {l : List UInt8} (h : 40 < l.length) : nameOk l = false := by
  unfold nameOk
  rw [show decide (l.length ≤ 40) = false by simpa using h]; simp
theorem nameOk_all {l : List UInt8} (h : ∀ (k : Nat) (b : UInt8), l[k]? = some b → okSign b = true) : nameOk l = (decide (1 ≤ l.length) && decide (l.length ≤ 40)) := by
  unfold nameOk
  have : l.all okSign = true := by
    rw [List.all_eq_true]
    intro b hb
    obtain ⟨k, hk⟩ := List.getElem?_of_mem hb
    exact h k b hk
  rw [this]; rfl

theorem signRight_any (z : Int) (w : World) : Calls Tryd.prog 27 #[.int .i32 z] w fun e w' => e = .returned (.bool (decide (32 ≤ z) && decide (z ≤ 126))) ∧ w = w' := by
  by_cases h1 : 32 ≤ z
  · go_enter Tryd.func27, Tryd.ntmps27
    go_wp2
    go_ret
    exact ⟨by simp [h1], rfl⟩
  · go_enter Tryd.func27, Tryd.ntmps27
    go_wp2
    go_ret
    exact ⟨by simp; omega, rfl⟩

set_option maxRecDepth 100000 in
set_option maxHeartbeats 1000000 in
theorem nameRight_any (s : ByteArray) (w : World) : Calls Tryd.prog 19 #[.string s] w fun e w' => e = .returned (.bool (nameOk (strL s))) ∧ Kept [] w w' := by
  go_enter Tryd.func19, Tryd.ntmps19
  go_wp2
  go_loopw [3] (fun n wr => ∃ k : Nat, k ≤ 40 ∧ k ≤ s.size ∧ n = .int .i64 k ∧ wr = w.iter s k ∧ Hid (∀ (j : Nat) (b : UInt8), j < k → (strL s)[j]? = some b → okSign b = true)) (fun _ wr => s.size - wr.iterPos w.heap.size)
  case atStart => exact ⟨0, by omega, by omega, rfl, rfl, Lib.hid (fun j b hj => absurd hj (by omega))⟩
  case round =>
    obtain ⟨k, hk, hks, rfl, rfl, Hk⟩ := hrel
    have hKi : ∀ p, Kept [] w (w.iter s p) := fun p => (Kept.refl [] w).alloc _
    have HK := Lib.hid hKi
    clear hKi
    by_cases hp : k < s.size
    · by_cases h40 : k = 40
      · subst h40
        have hf : nameOk (strL s) = false := nameOk_long (by rw [strL_length]; omega)
        have HF := Lib.hid hf
        have hnx : ∀ ty, (Instr.next (.pointer (some ⟨w.heap.size, 0, none⟩)) true ty).run Tryd.prog (w.iter s 40) = _ := fun ty => run_next_any w s 40 ty hp
        clear hf
        go_wp2
        go_ret
        exact ⟨by rw [HF.out]; rfl, HK.out _⟩
      have h4 : k < 40 := by omega
      obtain ⟨b, hb⟩ : ∃ b, b = s[k]'hp := ⟨_, rfl⟩
      have hg : (strL s)[k]? = some b := by rw [strL_get s k hp, hb]
      by_cases hok : okSign b = true
      · have ho := hok
        unfold okSign at ho
        simp at ho
        obtain ⟨b1, b2⟩ := ho
        have hnx : ∀ ty, (Instr.next (.pointer (some ⟨w.heap.size, 0, none⟩)) true ty).run Tryd.prog (w.iter s k) = .ok (.tuple #[.bool true, .int .i64 k, .int .i32 (b.toNat : Int)]) (w.iter s (k + 1)) := fun ty => by
          rw [run_next_ascii w s k ty hp (by rw [← hb]; omega), ← hb]
        have Hk2 : Hid (∀ (j : Nat) (b : UInt8), j < k + 1 → (strL s)[j]? = some b → okSign b = true) := Lib.hid (fun j b' hj h => by
          by_cases hjk : j = k
          · subst hjk
            rw [hg] at h
            injection h with h
            rw [← h]; exact hok
          · exact Hk.out j b' (by omega) h)
        obtain ⟨z, hz⟩ : ∃ z : Int, z = (b.toNat : Int) := ⟨_, rfl⟩
        have hz1 : 32 ≤ z := by omega
        have hz2 : z ≤ 126 := by omega
        rw [← hz] at hnx
        clear hb hg hok Hk h40 hz b1 b2
        go_wp2_with (go_at_call 27; refine (signRight_any _ _).mono ?_; rintro e w' ⟨rfl, rfl⟩)
        go_roundw
        case rel => exact ⟨k + 1, by omega, by omega, by go_num, rfl, Hk2⟩
        case measure => simp; omega
      · have hok' : okSign b = false := by simpa using hok
        have hf : nameOk (strL s) = false := nameOk_bad hg hok'
        have HF := Lib.hid hf
        obtain ⟨z, hz⟩ : ∃ z : Int, z = ((Utf8.decode s k).1 : Int) := ⟨_, rfl⟩
        have hzn : ¬ (32 ≤ z ∧ z ≤ 126) := by
          rintro ⟨z1, z2⟩
          by_cases ha : (s[k]'hp).toNat < 128
          · rw [decode_ascii s k hp ha, ← hb] at hz
            have : okSign b = true := by unfold okSign; simp; omega
            exact hok this
          · have := (decode_high s k hp (by omega)).1
            omega
        have hzf : (decide (32 ≤ z) && decide (z ≤ 126)) = false := by
          by_cases h1 : 32 ≤ z
          · have : ¬ z ≤ 126 := fun h => hzn ⟨h1, h⟩
            simp [this]
          · simp [h1]
        have hnx : ∀ ty, (Instr.next (.pointer (some ⟨w.heap.size, 0, none⟩)) true ty).run Tryd.prog (w.iter s k) = .ok (.tuple #[.bool true, .int .i64 k, .int .i32 z]) (w.iter s (k + (Utf8.decode s k).2)) := fun ty => by
          rw [run_next_any w s k ty hp, hz]
        generalize (Utf8.decode s k).2 = d at *
        have HZ := Lib.hid hzf
        clear hb hg hok hok' Hk h40 hz hf hzn hzf
        go_wp2_with (go_at_call 27; refine (signRight_any _ _).mono ?_; rw [HZ.out]; rintro e w' ⟨rfl, rfl⟩)
        go_ret
        exact ⟨by rw [HF.out]; rfl, HK.out _⟩
    · have hnx : ∀ ty, (Instr.next (.pointer (some ⟨w.heap.size, 0, none⟩)) true ty).run Tryd.prog (w.iter s k) = _ := fun ty => run_next_end w s k ty hp
      have hks2 : k = s.size := by omega
      have hf : nameOk (strL s) = decide (0 < k) := by
        rw [nameOk_all (fun j b h => Hk.out j b (by have := (List.getElem?_eq_some_iff.1 h).1; rw [strL_length] at this; omega) h), strL_length, ← hks2]
        simp [hk]
        omega
      have HF := Lib.hid hf
      clear Hk hf hks2
      go_wp2
      go_ret
      exact ⟨by rw [HF.out]; rfl, HK.out _⟩

set_option maxRecDepth 100000 in
set_option maxHeartbeats 1000000 in
theorem rNamed_any (s : ByteArray) (w : World) (hs : s.size ≤ 1000) : Calls Tryd.prog 23 #[.string s] w fun e w' => e = .returned (.bool (nameOk (strL s))) ∧ w = w' := by
  go_enter Tryd.func23, Tryd.ntmps23
  go_wp2
  go_loopw [3] (fun n wr => ∃ k : Nat, k ≤ s.size ∧ n = .int .i64 k ∧ w = wr ∧ Hid (∀ (j : Nat) (b : UInt8), j < k → (strL s)[j]? = some b → okSign b = true)) (fun n _ => s.size - (intOf n).toNat)
  case atStart => exact ⟨0, by omega, rfl, rfl, Lib.hid (fun j b hj => absurd hj (by omega))⟩
  case round =>
    obtain ⟨k, hks, rfl, rfl, Hk⟩ := hrel
    by_cases hp : k < s.size
    · obtain ⟨b, hb⟩ : ∃ b, b = s[k]'hp := ⟨_, rfl⟩
      have hg : (strL s)[k]? = some b := by rw [strL_get s k hp, hb]
      by_cases hok : okSign b = true
      · have ho := hok
        unfold okSign at ho
        simp at ho
        obtain ⟨b1, b2⟩ := ho
        have Hk2 : Hid (∀ (j : Nat) (b : UInt8), j < k + 1 → (strL s)[j]? = some b → okSign b = true) := Lib.hid (fun j b' hj h => by
          by_cases hjk : j = k
          · subst hjk
            rw [hg] at h
            injection h with h
            rw [← h]; exact hok
          · exact Hk.out j b' (by omega) h)
        rw [hb] at b1 b2
        clear hb hg hok Hk
        go_wp2
        go_roundw
        case rel => exact ⟨k + 1, by omega, by go_num, trivial, Hk2⟩
        case measure => simp [intOf]; omega
      · have hok' : okSign b = false := by simpa using hok
        have hf : nameOk (strL s) = false := nameOk_bad hg hok'
        have HF := Lib.hid hf
        have hbn : b.toNat < 32 ∨ 126 < b.toNat := by
          have ho := hok'
          unfold okSign at ho
          simp at ho
          omega
        rw [hb] at hbn
        clear hb hg hok hok' Hk hf
        rcases hbn with h1 | h1
        all_goals
          go_wp2
          go_ret
          exact ⟨by rw [HF.out]; rfl, rfl⟩
    · obtain rfl : k = s.size := by omega
      have hf : nameOk (strL s) = (decide (1 ≤ s.size) && decide (s.size ≤ 40)) := by
        rw [nameOk_all (fun j b h => Hk.out j b (by have := (List.getElem?_eq_some_iff.1 h).1; rw [strL_length] at this; omega) h), strL_length]
      have HF := Lib.hid hf
      clear Hk hf
      by_cases h1 : 1 ≤ s.size
      · by_cases h2 : s.size ≤ 40
        · go_wp2
          go_ret
          exact ⟨by rw [HF.out]; simp [h1, h2]; omega, rfl⟩
        · go_wp2
          go_ret
          exact ⟨by rw [HF.out]; simp [h1, h2]; omega, rfl⟩
      · go_wp2
        go_ret
        exact ⟨by rw [HF.out]; simp [h1], rfl⟩
end Go.Proofs.YtckffideobjlfaaDoor
