/-
  Contracts of the document's own answers for layer 7: too long? all alike? No statement of the seed is proved here.
-/
import Derived.Test.YtmfbgogfefgglaaRdL
import Derived.Test.YtmfbgogfefgglaaRef1
namespace Go.Proofs.Ytmfbgogfefgglaa
open Go.RowKit
set_option linter.unusedVariables false

def LongRetG (M L n : Nat) (ls : List (List UInt8)) (w : World) (e : Ending) (w' : World) : Prop := ∃ q, e = .returned (.bool q) ∧ w' = w ∧ Hid (q = false → n ≤ M ∧ ∀ l ∈ ls, l.length ≤ L)
set_option maxHeartbeats 1000000 in
theorem longG_any (M L : Nat) (A : Option Addr) (n c : Nat) (ls : List (List UInt8)) (w : World) (hr : RdL w A n c ls) (hM : M ≤ 1000) (hL : L ≤ 1000) :
    Calls Try.prog 26 #[.slice A n c, .int .i64 (M : Int), .int .i64 (L : Int)] w (LongRetG M L n ls w) := by
  have HR := Lib.hid hr
  have Hl := Lib.hid hr.len
  have hm := hr.cap
  have hm2 := hr.most
  unfold maxLen at hm2
  clear hr
  by_cases hbig : n ≤ M
  · go_enter Try.func26, Try.ntmps26
    go_wp2
    go_loopw [7] (fun i wr => ∃ k : Nat, k ≤ n ∧ i = .int .i64 (k : Int) ∧ wr = w ∧ Hid (∀ j l, j < k → ls[j]? = some l → l.length ≤ L)) (fun i _ => n - (intOf i).toNat)
    case atStart => exact ⟨0, by omega, rfl, rfl, Lib.hid (fun j l h => by omega)⟩
    case round =>
      obtain ⟨k, hk, rfl, rfl, H⟩ := hrel
      by_cases hlt : k < n
      · obtain ⟨b, off, Ak, nk, ck, l, rfl, hb, c1, g1, r1⟩ := HR.out.at_ hlt
        have hnk := r1.len
        have b1 := r1.cap
        have b2 := r1.most
        unfold maxLen at b2
        by_cases he : nk ≤ L
        · have H' : Hid (∀ j l, j < k + 1 → ls[j]? = some l → l.length ≤ L) := Lib.hid (fun j l' hj hl' => by
            by_cases h : j < k
            · exact H.out j l' h hl'
            · obtain rfl : j = k := by omega
              rw [g1] at hl'; injection hl' with hl'; subst hl'; rw [hnk]; exact he)
          clear H r1 g1 hnk
          go_wp2
          go_roundw
          case rel => exact ⟨k + 1, by omega, by go_num, trivial, H'⟩
          case measure => simp [intOf]; omega
        · clear H r1 g1 hnk
          go_wp2
          go_ret
          exact ⟨true, rfl, rfl, Lib.hid (fun h => by cases h)⟩
      · obtain rfl : n = k := by omega
        have HF : Hid (n ≤ M ∧ ∀ l ∈ ls, l.length ≤ L) := Lib.hid (⟨hbig, fun l hl => by
          obtain ⟨j, hj⟩ := List.mem_iff_getElem?.1 hl
          exact H.out j l (by have := (List.getElem?_eq_some_iff.1 hj).1; have := Hl.out; omega) hj⟩)
        clear H
        go_wp2
        go_ret
        exact ⟨false, rfl, rfl, Lib.hid (fun _ => HF.out)⟩
  · go_enter Try.func26, Try.ntmps26
    go_wp2
    go_ret
    exact ⟨true, rfl, rfl, Lib.hid (fun h => by cases h)⟩

set_option maxHeartbeats 1000000 in
theorem sameAll7_any (A A' : Option Addr) (n c n' c' : Nat) (ls : List (List UInt8)) (w : World) (ha : RdL w A n c ls) (hb : RdL w A' n' c' ls) :
    Calls Try.prog 16 #[.slice A n c, .slice A' n' c'] w fun e w' => e = .returned (.bool true) ∧ ∃ m, w' = w.drewN m := by
  have HA := Lib.hid ha
  have HB := Lib.hid hb
  have hm := ha.cap
  have hm2 := ha.most
  have hm3 := hb.cap
  have hm4 := hb.most
  unfold maxLen at hm2 hm4
  obtain rfl : n = n' := by rw [← ha.len, ← hb.len]
  clear ha hb
  go_enter Try.func16, Try.ntmps16
  go_wp2
  go_loopw [5] (fun i wr => ∃ k : Nat, k ≤ n ∧ i = .int .i64 (k : Int) ∧ Hid (∃ m, wr = w.drewN m)) (fun i _ => n - (intOf i).toNat)
  case atStart => exact ⟨0, by omega, rfl, Lib.hid ⟨0, rfl⟩⟩
  case round =>
    obtain ⟨k, hk, rfl, HM⟩ := hrel
    have hKr : Kept [] w wr := by obtain ⟨m, rfl⟩ := HM.out; exact (Kept.refl [] w).drewN m
    by_cases hlt : k < n
    · obtain ⟨b, off, Ak, nk, ck, l, rfl, hb, c1, g1, r1⟩ := (HA.out.kept0 hKr).at_ hlt
      obtain ⟨b', off', Aj, nj, cj, l', rfl, hb', c2, g2, r2⟩ := (HB.out.kept0 hKr).at_ hlt
      have hll : l = l' := by rw [g1] at g2; injection g2
      subst hll
      obtain rfl : nk = nj := by rw [← r1.len, ← r2.len]
      have R1 := Lib.hid r1
      have R2 := Lib.hid r2
      clear r1 r2 g1 g2 hKr
      go_wp2
      go_quiet (first | (go_at_call 31; refine Calls.quiet_of (same_yes _ _ _ _ _ l _ (by first | exact R1.out | exact R1.out.drewN _ | exact (R1.out.drewN _).drewN _) (by first | exact R2.out | exact R2.out.drewN _ | exact (R2.out.drewN _).drewN _))))
      go_wp2
      go_roundw
      case rel => exact ⟨k + 1, by omega, by go_num, Lib.hid (by obtain ⟨m, rfl⟩ := HM.out; exact ⟨m + nq, by simp⟩)⟩
      case measure => simp [intOf]; omega
    · obtain rfl : n = k := by omega
      clear hKr
      go_wp2
      go_ret
      exact ⟨rfl, HM.out⟩
end Go.Proofs.Ytmfbgogfefgglaa
