/-
  Contracts of layer 10 (names): is a text a name? No statement of the seed is proved here.
-/
import Derived.Test.YtboienifeciidaaDoorNm1
import Derived.Test.YtboienifeciidaaDoorStr
namespace Go.Proofs.YtboienifeciidaaDoor
open Go.RowKit
set_option linter.unusedVariables false

/-- The rune at a place of a text. -/
theorem dec_at (s : ByteArray) (pos : Nat) (h : pos < s.size) : ∃ c d, Utf8.decode s pos = (c, d) ∧ decL ((strL s).drop pos) = (c, d) ∧ 1 ≤ d ∧ d ≤ 4 ∧ pos + d ≤ s.size ∧ c ≤ 1114111 ∧ runesL ((strL s).drop pos) = c :: runesL ((strL s).drop (pos + d)) := by
  have hl : ((strL s).drop pos).length = s.size - pos := by rw [List.length_drop, strL_length]
  have hn : (strL s).drop pos ≠ [] := by intro e; rw [e] at hl; simp at hl; omega
  have hw := decL_width _ hn
  have hr := runesL_next _ hn
  have hd := decode_decL s pos
  change Utf8.decode s pos = decL ((strL s).drop pos) at hd
  rw [List.drop_drop] at hr
  rcases hcd : decL ((strL s).drop pos) with ⟨c, d⟩
  rw [hcd] at hw hr hd
  exact ⟨c, d, hd, rfl, hw.1, hw.2.1, by omega, hw.2.2.2, hr⟩
theorem idx_str {P : Program} {t : TypeId} {s : ByteArray} {k : Nat} (hp : k < s.size) {z : Int} (hz : z = k) {b : UInt8} (hb : (strL s)[k]? = some b) (h : P.underlying t = some .string) (v : World) : (Instr.index t (.string s) (.int .i64 z)).run P v = .ok (.int .u8 b.toNat) v := by
  subst hz
  have hib : s[k]'hp = b := by have := strL_get s k hp; rw [hb] at this; exact (Option.some.inj this).symm
  rw [run_index_string v t s .i64 _ h, dif_pos ⟨by omega, by omega⟩, ← hib]
  rfl
theorem ne_32 (b : UInt8) : decide (b ≠ 32) = !decide ((b.toNat : Int) = 32) := by
  rw [← decide_not]
  apply decide_eq_decide.2
  rw [show b ≠ 32 ↔ ¬ b.toNat = 32 from not_congr (by rw [← UInt8.toNat_inj]; rfl)]
  omega
theorem bne_pair {x y : Int} (h : ¬ x = 32) : (x != 32 && y != 32) = !decide (y = 32) := by
  rw [show (x != 32) = true from bne_iff_ne.2 h, Bool.true_and]; rfl
theorem drop_end (s : ByteArray) (pos : Nat) (h : ¬ pos < s.size) : (strL s).drop pos = [] := List.drop_eq_nil_of_le (by rw [strL_length]; omega)

theorem right_end (s : ByteArray) (b z : UInt8) (h0 : 0 < s.size) (hb : (strL s)[0]? = some b) (hz : (strL s)[s.size - 1]? = some z) (hall : ∀ c ∈ runesL (strL s), signOk c = true) (hm : (runesL (strL s)).length ≤ 24) :
    rightL (strL s) = (decide (b ≠ 32) && decide (z ≠ 32)) := by
  have hl := strL_length s
  cases hx : strL s with
  | nil => rw [hx] at hl; simp at hl; omega
  | cons x t =>
    rw [hx] at hb hz hall hm hl
    have : x = b := by simpa using hb
    subst this
    exact right_ends (by rw [List.getLast?_eq_getElem?, hl]; exact hz) hall hm

set_option maxRecDepth 100000 in
set_option maxHeartbeats 2000000 in
theorem nRight_any (s : ByteArray) (w : World) (hs : s.size ≤ 140737488355328) : Calls Tryd.prog 11 #[.string s] w fun e w' => e = .returned (.bool (rightL (strL s))) ∧ Kept [] w w' := by
  obtain ⟨R, hR⟩ : ∃ R, rightL (strL s) = R := ⟨_, rfl⟩
  rw [hR]
  have HR := Lib.hid hR
  clear hR
  go_enter Tryd.func11, Tryd.ntmps11
  go_wp2
  go_loopw [3] (fun n wr => ∃ pos k : Nat, pos ≤ s.size ∧ k ≤ 24 ∧ n = .int .i64 k ∧ wr = w.iter s pos ∧ Hid (∃ pre, runesL (strL s) = pre ++ runesL ((strL s).drop pos) ∧ pre.length = k ∧ ∀ c ∈ pre, signOk c = true)) (fun _ wr => s.size - wr.iterPos w.heap.size)
  case atStart => exact ⟨0, 0, by omega, by omega, rfl, rfl, Lib.hid ⟨[], by simp, rfl, by simp⟩⟩
  case round =>
    obtain ⟨pos, k, hps, hk24, rfl, rfl, Hk⟩ := hrel
    have HK : Hid (∀ p, Kept [] w (w.iter s p)) := Lib.hid fun p => (Kept.refl [] w).alloc _
    by_cases hp : pos < s.size
    · obtain ⟨c, d, hd, _, hd1, _, hd2, hc, hr⟩ := dec_at s pos hp
      have hnx : ∀ ty, (Instr.next (.pointer (some ⟨w.heap.size, 0, none⟩)) true ty).run Tryd.prog (w.iter s pos) = .ok (.tuple #[.bool true, .int .i64 pos, .int .i32 c]) (w.iter s (pos + d)) := fun ty => by
        rw [run_next_any w s pos ty hp, hd]
      have Hr := Lib.hid hr
      clear hr hd
      by_cases h24 : k = 24
      · subst h24
        have Hf : Hid (R = false) := Lib.hid (by
          rw [← HR.out]
          obtain ⟨pre, e1, e2, _⟩ := Hk.out
          apply right_long
          rw [e1, Hr.out, List.length_append, e2]
          simp)
        clear Hk
        go_wp2
        go_ret
        exact ⟨by rw [Hf.out]; rfl, HK.out _⟩
      have h4 : k < 24 := by omega
      by_cases hok : signOk c = true
      · have Hk2 : Hid (∃ pre, runesL (strL s) = pre ++ runesL ((strL s).drop (pos + d)) ∧ pre.length = k + 1 ∧ ∀ c ∈ pre, signOk c = true) := Lib.hid (by
          obtain ⟨pre, e1, e2, e3⟩ := Hk.out
          refine ⟨pre ++ [c], by rw [e1, Hr.out]; simp, by simp [e2], fun x hx => ?_⟩
          rw [List.mem_append, List.mem_singleton] at hx
          rcases hx with hx | rfl
          · exact e3 x hx
          · exact hok)
        have HZ : Hid (signZ (c : Int) = true) := Lib.hid (by rw [signZ_rune]; exact hok)
        clear Hk h24 hok
        go_wp2_with (go_at_call 19; refine (nSign_any _ _).mono ?_; rw [HZ.out]; rintro e w' ⟨rfl, rfl⟩)
        go_roundw
        case rel => exact ⟨pos + d, k + 1, by omega, by omega, by go_num, rfl, Hk2⟩
        case measure => simp; omega
      · have hok' : signOk c = false := by simpa using hok
        have HZ : Hid (signZ (c : Int) = false) := Lib.hid (by rw [signZ_rune]; exact hok')
        have Hf : Hid (R = false) := Lib.hid (by
          rw [← HR.out]
          obtain ⟨pre, e1, e2, _⟩ := Hk.out
          exact right_bad (c := c) (by rw [e1, Hr.out]; simp) hok')
        clear Hk h24 hok hok'
        go_wp2_with (go_at_call 19; refine (nSign_any _ _).mono ?_; rw [HZ.out]; rintro e w' ⟨rfl, rfl⟩)
        go_ret
        exact ⟨by rw [Hf.out]; rfl, HK.out _⟩
    · have hnx : ∀ ty, (Instr.next (.pointer (some ⟨w.heap.size, 0, none⟩)) true ty).run Tryd.prog (w.iter s pos) = _ := fun ty => run_next_end w s pos ty hp
      have hall : (runesL (strL s)).length = k ∧ ∀ c ∈ runesL (strL s), signOk c = true := by
        obtain ⟨pre, e1, e2, e3⟩ := Hk.out
        rw [drop_end s pos hp, runesL_nil, List.append_nil] at e1
        rw [e1]
        exact ⟨e2, e3⟩
      clear Hk
      by_cases hk0 : k = 0
      · subst hk0
        have Hf : Hid (R = false) := Lib.hid (by rw [← HR.out, runesL_zero hall.1, right_nil])
        clear hall
        go_wp2
        go_ret
        exact ⟨by rw [Hf.out]; rfl, HK.out _⟩
      have h0 : 0 < s.size := by have := runesL_length (strL s); rw [strL_length] at this; omega
      obtain ⟨b, hb⟩ : ∃ b, (strL s)[0]? = some b := ⟨_, List.getElem?_eq_getElem (by rw [strL_length]; exact h0)⟩
      obtain ⟨z, hz⟩ : ∃ z, (strL s)[s.size - 1]? = some z := ⟨_, List.getElem?_eq_getElem (by rw [strL_length]; omega)⟩
      have Hf : Hid (R = (decide (b ≠ 32) && decide (z ≠ 32))) := Lib.hid (by rw [← HR.out]; exact right_end s b z h0 hb hz hall.2 (by omega))
      have hk1 : 0 < k := by omega
      obtain ⟨nb, hnb⟩ : ∃ nb : Int, nb = b.toNat := ⟨_, rfl⟩
      obtain ⟨nz, hnz⟩ : ∃ nz : Int, nz = z.toNat := ⟨_, rfl⟩
      have hx0 : ∀ v, (Instr.index 9 (.string s) (.int .i64 0)).run Tryd.prog v = .ok (.int .u8 nb) v := fun v => by rw [hnb]; exact idx_str h0 rfl hb Tryd.underlying9 v
      have hx1 : ∀ v, (Instr.index 9 (.string s) (.int .i64 ((s.size : Int) - 1))).run Tryd.prog v = .ok (.int .u8 nz) v := fun v => by rw [hnz]; exact idx_str (by omega) (by omega) hz Tryd.underlying9 v
      have Hbn : Hid (decide (b ≠ 32) = !decide (nb = 32)) := Lib.hid (by rw [hnb]; exact ne_32 b)
      have Hzn : Hid (decide (z ≠ 32) = !decide (nz = 32)) := Lib.hid (by rw [hnz]; exact ne_32 z)
      clear hb hz hall hk0 hnb hnz
      by_cases h32 : nb = 32
      · subst h32
        go_wp2
        go_ret
        exact ⟨by rw [Hf.out, Hbn.out]; simp, HK.out _⟩
      · go_wp2
        go_ret
        exact ⟨by rw [Hf.out, Hbn.out, Hzn.out, decide_eq_false h32]; simp; exact bne_pair h32, HK.out _⟩
end Go.Proofs.YtboienifeciidaaDoor
