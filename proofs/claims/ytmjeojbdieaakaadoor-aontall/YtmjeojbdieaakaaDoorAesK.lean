/-
  Plain mathematics of layer 5, going on: a key's words, as words of 32 bits. Nothing of the program here.
-/
import Derived.Test.YtmjeojbdieaakaaDoorAesT
namespace Go.Proofs.YtmjeojbdieaakaaDoor
set_option linter.unusedVariables false

/-- Each byte of a word exchanged. -/
def exchW (w : W32) : W32 := w4 (sb (UInt8.ofNat (w.toNat / 16777216))) (sb (UInt8.ofNat (w.toNat / 65536))) (sb (UInt8.ofNat (w.toNat / 256))) (sb (UInt8.ofNat w.toNat))
theorem exchW_w4 (a b c d : UInt8) : exchW (w4 a b c d) = w4 (sb a) (sb b) (sb c) (sb d) := by
  unfold exchW
  obtain ⟨h1, h2, h3, h4⟩ := w4_byte a b c d
  rw [ofNat_byte h1, ofNat_byte h2, ofNat_byte h3, ofNat_byte h4]
theorem getD_app_lt (A B : List UInt8) {j : Nat} (h : j < A.length) : (A ++ B).getD j 0 = A.getD j 0 := by
  rw [List.getD_eq_getElem?_getD, List.getD_eq_getElem?_getD, List.getElem?_append_left h]
theorem getD_app_ge (A B : List UInt8) (j : Nat) : (A ++ B).getD (A.length + j) 0 = B.getD j 0 := by
  rw [List.getD_eq_getElem?_getD, List.getD_eq_getElem?_getD, List.getElem?_append_right (by omega), Nat.add_sub_cancel_left]
theorem wAt_app_lt (A B : List UInt8) {j : Nat} (h : 4 * j + 3 < A.length) : wAt (A ++ B) j = wAt A j := by
  unfold wAt
  rw [getD_app_lt A B (by omega), getD_app_lt A B (by omega), getD_app_lt A B (by omega), getD_app_lt A B (by omega)]
theorem wAt_app_ge (A B : List UInt8) {j : Nat} (h : A.length = 4 * j) : wAt (A ++ B) j = w4 (B.getD 0 0) (B.getD 1 0) (B.getD 2 0) (B.getD 3 0) := by
  unfold wAt
  rw [← h]
  have := getD_app_ge A B 0
  rw [Nat.add_zero] at this
  rw [this, getD_app_ge, getD_app_ge, getD_app_ge]
/-- What the word ahead gives to the word at place i. -/
def keyW (rc : UInt8) (i : Nat) (w : W32) : W32 := if i % 8 = 0 then exchW (rotl w 8) ^^^ w4 rc 0 0 0 else if i % 8 = 4 then exchW w else w
theorem kw_step (key : List UInt8) (h32 : key.length = 32) (n : Nat) :
    wAt (aesWordsN key (n + 1)) (8 + n) = wAt (aesWordsN key n) n ^^^ keyW (aesRc ((8 + n) / 8 - 1)) (8 + n) (wAt (aesWordsN key n) (7 + n)) := by
  have hl := aesWordsN_length h32 n
  show wAt (aesWordsN key n ++ aesWord (aesRc ((8 + n) / 8 - 1)) (aesWordsN key n) (8 + n)) (8 + n) = _
  rw [wAt_app_ge _ _ (by omega)]
  generalize aesRc ((8 + n) / 8 - 1) = rc
  generalize aesWordsN key n = L
  unfold aesWord
  simp only []
  rw [tab_get _ (by omega), tab_get _ (by omega), tab_get _ (by omega), tab_get _ (by omega)]
  unfold keyW wAt
  rw [show 4 * (8 + n) - 32 + 0 = 4 * n by omega, show 4 * (8 + n) - 32 + 1 = 4 * n + 1 by omega, show 4 * (8 + n) - 32 + 2 = 4 * n + 2 by omega, show 4 * (8 + n) - 32 + 3 = 4 * n + 3 by omega]
  have e : ∀ k, 4 * (8 + n) - 4 + k = 4 * (7 + n) + k := fun k => by omega
  simp only [e]
  by_cases h0 : (8 + n) % 8 = 0
  · simp only [h0, if_true]
    rw [w4_rot8, exchW_w4, w4_xor, w4_xor]
    simp
  · by_cases h4 : (8 + n) % 8 = 4
    · simp only [h4, if_true, show ¬ ((4 : Nat) = 0) by decide, if_false]
      rw [exchW_w4, w4_xor]
      simp
    · simp only [h0, h4, if_false]
      rw [w4_xor]
      simp
theorem ws_step (key : List UInt8) (h32 : key.length = 32) (n : Nat) :
    wsOf (aesWordsN key (n + 1)) (8 + n + 1) = wsOf (aesWordsN key n) (8 + n) ++ [wAt (aesWordsN key n) n ^^^ keyW (aesRc ((8 + n) / 8 - 1)) (8 + n) (wAt (aesWordsN key n) (7 + n))] := by
  have hl := aesWordsN_length h32 n
  rw [wsOf_succ, kw_step key h32 n]
  congr 1
  refine wsOf_congr fun i hi => ?_
  show wAt (aesWordsN key n ++ _) i = _
  rw [wAt_app_lt _ _ (by omega)]
theorem rc_step (n : Nat) : aesRc (n + 1) = xt 0x1b (aesRc n) := by
  show gmul 0x1b (aesRc n) 2 = _
  rw [gmul2]
theorem rc_at (n : Nat) (h : (8 + n) % 8 = 0) : aesRc ((n + 7) / 8) = aesRc ((8 + n) / 8 - 1) ∧ aesRc ((n + 1 + 7) / 8) = xt 0x1b (aesRc ((8 + n) / 8 - 1)) := by
  refine ⟨by congr 1; omega, ?_⟩
  rw [← rc_step]; congr 1; omega
theorem rc_not (n : Nat) (h : (8 + n) % 8 ≠ 0) : aesRc ((n + 1 + 7) / 8) = aesRc ((n + 7) / 8) := by congr 1; omega
/-- A key's words, as they stand in the end. -/
theorem wAt_pre (key : List UInt8) (h32 : key.length = 32) (n : Nat) {j : Nat} (h : j < 8 + n) : ∀ m, wAt (aesWordsN key (n + m)) j = wAt (aesWordsN key n) j
  | 0 => rfl
  | m + 1 => by
    have hl := aesWordsN_length h32 (n + m)
    show wAt (aesWordsN key (n + m) ++ _) j = _
    rw [wAt_app_lt _ _ (by omega), wAt_pre key h32 n h m]
theorem kw_fin (key : List UInt8) (h32 : key.length = 32) (n : Nat) (h : n < 52) :
    wAt (aesWords key) (8 + n) = wAt (aesWords key) n ^^^ keyW (aesRc ((8 + n) / 8 - 1)) (8 + n) (wAt (aesWords key) (7 + n)) := by
  rw [aesWords_eq]
  obtain ⟨m, hm⟩ : ∃ m, m = 52 - n := ⟨_, rfl⟩
  obtain ⟨l, hl⟩ : ∃ m, m = 52 - (n + 1) := ⟨_, rfl⟩
  have e0 : ∀ j, j < 8 + n → wAt (aesWordsN key 52) j = wAt (aesWordsN key n) j := fun j hj => by
    rw [show 52 = n + m by omega]; exact wAt_pre key h32 n hj m
  have e1 : wAt (aesWordsN key 52) (8 + n) = wAt (aesWordsN key (n + 1)) (8 + n) := by
    rw [show 52 = (n + 1) + l by omega]; exact wAt_pre key h32 (n + 1) (by omega) l
  rw [e1, kw_step key h32 n, e0 n (by omega), e0 (7 + n) (by omega)]
theorem kw_key (key : List UInt8) (h32 : key.length = 32) {j : Nat} (h : j < 8) : wAt (aesWords key) j = wAt key j := by
  rw [aesWords_eq]; exact wAt_pre key h32 0 (by omega) 52
/-- The same, byte by byte. -/
def keyB (rc : UInt8) (i : Nat) (x : Nat → UInt8) (k : Nat) : UInt8 := if i % 8 = 0 then (sb (x ((k + 1) % 4)) ^^^ (if k = 0 then rc else 0)) else if i % 8 = 4 then sb (x k) else x k
theorem gD_pre (key : List UInt8) (h32 : key.length = 32) (n : Nat) {j : Nat} (h : j < 32 + 4 * n) : ∀ m, (aesWordsN key (n + m)).getD j 0 = (aesWordsN key n).getD j 0
  | 0 => rfl
  | m + 1 => by
    have hl := aesWordsN_length h32 (n + m)
    show (aesWordsN key (n + m) ++ _).getD j 0 = _
    rw [getD_app_lt _ _ (by omega), gD_pre key h32 n h m]
theorem kb_gen (key : List UInt8) (h32 : key.length = 32) (n k N : Nat) (h : n < N) (hk : k < 4) :
    (aesWordsN key N).getD (4 * (8 + n) + k) 0 = (aesWordsN key N).getD (4 * n + k) 0 ^^^ keyB (aesRc ((8 + n) / 8 - 1)) (8 + n) (fun j => (aesWordsN key N).getD (4 * (7 + n) + j % 4) 0) k := by
  obtain ⟨m, hm⟩ : ∃ m, m = N - n := ⟨_, rfl⟩
  obtain ⟨l, hl⟩ : ∃ m, m = N - (n + 1) := ⟨_, rfl⟩
  have e0 : ∀ j, j < 32 + 4 * n → (aesWordsN key N).getD j 0 = (aesWordsN key n).getD j 0 := fun j hj => by
    rw [show N = n + m by omega]; exact gD_pre key h32 n hj m
  have e1 : (aesWordsN key N).getD (4 * (8 + n) + k) 0 = (aesWordsN key (n + 1)).getD (4 * (8 + n) + k) 0 := by
    rw [show N = (n + 1) + l by omega]; exact gD_pre key h32 (n + 1) (by omega) l
  have hL := aesWordsN_length h32 n
  have e2 : (aesWordsN key (n + 1)).getD (4 * (8 + n) + k) 0 = (aesWord (aesRc ((8 + n) / 8 - 1)) (aesWordsN key n) (8 + n)).getD k 0 := by
    have hd : aesWordsN key (n + 1) = aesWordsN key n ++ aesWord (aesRc ((8 + n) / 8 - 1)) (aesWordsN key n) (8 + n) := rfl
    rw [hd, show 4 * (8 + n) + k = (aesWordsN key n).length + k by omega, getD_app_ge]
  rw [e1, e2, e0 (4 * n + k) (by omega)]
  unfold aesWord
  simp only []
  rw [tab_get _ hk, show 4 * (8 + n) - 32 + k = 4 * n + k by omega]
  congr 1
  unfold keyB
  have e3 : ∀ j, j < 4 → (aesWordsN key n).getD (4 * (8 + n) - 4 + j) 0 = (aesWordsN key N).getD (4 * (7 + n) + j % 4) 0 := fun j hj => by
    rw [e0 _ (by omega)]; congr 1; omega
  rw [e3 _ (show (k + 1) % 4 < 4 by omega), e3 k hk]
theorem kb_fin (key : List UInt8) (h32 : key.length = 32) (n k : Nat) (h : n < 52) (hk : k < 4) :
    (aesWords key).getD (4 * (8 + n) + k) 0 = (aesWords key).getD (4 * n + k) 0 ^^^ keyB (aesRc ((8 + n) / 8 - 1)) (8 + n) (fun j => (aesWords key).getD (4 * (7 + n) + j % 4) 0) k := by
  rw [aesWords_eq]
  exact kb_gen key h32 n k 52 h hk
theorem kb_key (key : List UInt8) (h32 : key.length = 32) {j : Nat} (h : j < 32) : (aesWords key).getD j 0 = key.getD j 0 := by
  rw [aesWords_eq]; exact gD_pre key h32 0 (by omega) 52
end Go.Proofs.YtmjeojbdieaakaaDoor
