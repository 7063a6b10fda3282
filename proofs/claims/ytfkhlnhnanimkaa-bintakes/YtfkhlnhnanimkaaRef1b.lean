/-
  Contracts of the document's own answers of layer 1: the bytes of what is put. No statement of the seed is proved here.
-/
import Derived.Test.YtfkhlnhnanimkaaLaw1a
namespace Go.Proofs.Ytfkhlnhnanimkaa
open Go.RowKit
set_option linter.unusedVariables false

theorem be_cons : ∀ (k x : Nat), be (k + 1) x = UInt8.ofNat (x / 256 ^ k) :: be k x
  | 0, x => by simp [be]
  | k + 1, x => by
    rw [be, be_cons k (x / 256), be, Nat.div_div_eq_div_mul, ← Nat.pow_succ']
    rfl
theorem set_rep (m : Nat) (b : UInt8) (l : List UInt8) : (List.replicate (m + 1) 0 ++ l).set m b = List.replicate m 0 ++ (b :: l) := by
  rw [List.replicate_succ', List.append_assoc, List.set_append_right _ _ (by simp)]
  simp

/-- Bytes that are told anew, and a number: how the document's own answers come. -/
def RefRet (news : List UInt8) (er : Nat) (w : World) (e : Ending) (w' : World) : Prop :=
  ∃ v, e = .returned (.tuple #[v, .int .i64 er]) ∧ OwB 5 w' v news ∧ Kept [] w w' ∧ ∀ g, v.ownBlock = some g → w.heap.size ≤ g

theorem rfBytes_any (x : Int) (n : Nat) (w : World) (h0 : 0 ≤ x) (h1 : x ≤ 18446744073709551615) (hn : n ≤ 8) :
    Calls Try.prog 31 #[.int .u64 x, .int .i64 n] w (CloneRet (be n x.toNat) w) := by
  obtain ⟨i0, hi, hz0, hz1, hz2⟩ := info_parts u8info
  go_enter Try.func31, Try.ntmps31
  go_wp2_with (refine wpList_make_bytes rfl (.tmp 7) (.tmp 7) 25 rfl 5 i0 Try.underlying25 hi hz0 hz1 hz2 _ _ _ _ n rfl rfl rfl rfl (by omega) ?_; intro w1 hown1 hk1)
  go_loopw [0, 6] (fun y i wr => ∃ (k : Nat) (z : Int), k ≤ n ∧ i = .int .i64 ((n : Int) - 1 - k) ∧ y = .int .u64 z ∧ 0 ≤ z ∧ z ≤ 18446744073709551615 ∧ z.toNat = x.toNat / 256 ^ k ∧ OwB 5 wr (.slice (some ⟨w.heap.size, 0, none⟩) n n) (List.replicate (n - k) 0 ++ be k x.toNat) ∧ Kept [] w wr) (fun _ i _ => (intOf i + 1).toNat)
  case atStart => exact ⟨0, x, by omega, by simp, rfl, h0, h1, by simp, by simpa [be] using hown1, hk1⟩
  case round =>
    obtain ⟨k, z, hk, rfl, rfl, z0, z1, hz, hown, hkw⟩ := hrel
    have HZ := Lib.hid hz
    clear hz
    by_cases hlt : k < n
    · have hfz := hown.fz (n - 1 - k)
      have hlt2 := hown.lt
      have hrd := hown.rd
      obtain ⟨b, off, y, e1, c1, _, _⟩ := hrd.byte (k := n - 1 - k) (by omega)
      simp only [Option.some.injEq, Addr.mk.injEq] at e1
      obtain ⟨rfl, rfl, _⟩ := e1
      rw [Nat.zero_add] at c1
      have hnew := hown.set (n - 1 - k) (UInt8.ofNat (x.toNat / 256 ^ k))
      have he : n - k = (n - 1 - k) + 1 := by omega
      rw [he, set_rep, ← be_cons] at hnew
      have hb : bcell (UInt8.ofNat (x.toNat / 256 ^ k)) = .int .u8 (z % 256) := by
        unfold bcell; rw [ofNat_toNat, ← HZ.out]; congr 1; omega
      rw [hb] at hnew
      have hkn : Kept [] w (wr.setCell ⟨w.heap.size, n - 1 - k, none⟩ (.int .u8 (z % 256))) := hkw.setCell (by simp) _
      clear hb he
      go_wp2
      go_roundw
      case rel =>
        refine ⟨k + 1, z / 256, by omega, congrArg _ (by omega), rfl, by omega, by omega, ?_, ?_, hkn⟩
        · have := HZ.out
          rw [Nat.pow_succ, ← Nat.div_div_eq_div_mul, ← this]; omega
        · have e : n - (k + 1) = n - 1 - k := by omega
          rw [e]; exact hnew
      case measure => simp [intOf]; omega
    · obtain rfl : k = n := by omega
      go_wp2
      go_ret
      exact ⟨_, rfl, by simpa using hown, hkw, by simp [Value.ownBlock]⟩

theorem ownBlock_new {e : TypeId} {w w' : World} {v v' : Value} {B : Nat} (hm : Moved w v v') (hB : B ≤ w.heap.size) (hv : ∀ g, v.ownBlock = some g → B ≤ g) : ∀ g, v'.ownBlock = some g → B ≤ g := by
  intro g hg
  rcases hm g hg with h | h
  · exact hv g h
  · omega

/-- The bytes of a number of n bytes, and the error. -/
def pnum (x : Nat) (n : Int) : List UInt8 × Nat := if n < 1 ∨ 8 < n then ([], 14) else if 256 ^ n.toNat ≤ x then ([], 3) else (be n.toNat x, 0)
/-- The bytes of a small number, and the error. -/
def psmall (x : Nat) : List UInt8 × Nat := if 4294967296 ≤ x then ([], 3) else (sm x, 0)

theorem rfNum_any (x n : Int) (w : World) (h0 : 0 ≤ x) (h1 : x ≤ 18446744073709551615) : Calls Try.prog 12 #[.int .u64 x, .int .i64 n] w (RefRet (pnum x.toNat n).1 (pnum x.toNat n).2 w) := by
  by_cases hn : n < 1 ∨ 8 < n
  · have hp : pnum x.toNat n = ([], 14) := by unfold pnum; rw [if_pos hn]
    rw [hp]
    clear hp
    rcases hn with hn | hn
    · go_enter Try.func12, Try.ntmps12
      go_wp2
      go_ret2
      exact ⟨_, rfl, OwB.nil _ _, Kept.refl _ _, by simp [Value.ownBlock]⟩
    · have hd : decide (n < 1) = false := by simp; omega
      have hd2 : decide (8 < n) = true := by simp; omega
      go_enter Try.func12, Try.ntmps12
      go_wp2
      go_ret2
      exact ⟨_, rfl, OwB.nil _ _, Kept.refl _ _, by simp [Value.ownBlock]⟩
  · obtain ⟨m, rfl⟩ := Int.eq_ofNat_of_zero_le (show 0 ≤ n by omega)
    have hd : decide ((m : Int) < 1) = false := by simp; omega
    have hd2 : decide (8 < (m : Int)) = false := by simp; omega
    have hwid := wid_le x.toNat m (by omega) (by omega) (by omega)
    by_cases hx : 256 ^ m ≤ x.toNat
    · have hp : pnum x.toNat m = ([], 3) := by unfold pnum; rw [if_neg hn, if_pos (by simpa using hx)]
      rw [hp]
      have hg : (m : Int) < (wid x.toNat : Int) := by omega
      clear hp hwid
      go_enter Try.func12, Try.ntmps12
      go_wp2_with (go_at_call 28; refine (width_any _ _ h0 h1).mono ?_; rintro e w' ⟨rfl, rfl⟩)
      go_ret2
      exact ⟨_, rfl, OwB.nil _ _, Kept.refl _ _, by simp [Value.ownBlock]⟩
    · have hp : pnum x.toNat m = (be m x.toNat, 0) := by unfold pnum; rw [if_neg hn, if_neg (by simpa using hx)]; simp
      rw [hp]
      have hg : (wid x.toNat : Int) ≤ (m : Int) := by omega
      clear hp hwid
      go_enter Try.func12, Try.ntmps12
      go_wp2_with (first | (go_at_call 28; refine (width_any _ _ h0 h1).mono ?_; rintro e w' ⟨rfl, rfl⟩) | (go_at_call 31; refine (rfBytes_any x m _ h0 h1 (by omega)).mono ?_; rintro e w1 ⟨v, rfl, ho, hk, hf⟩))
      go_ret2
      exact ⟨v, rfl, ho, hk, hf⟩

theorem rfSmall_any (x : Int) (w : World) (h0 : 0 ≤ x) (h1 : x ≤ 18446744073709551615) : Calls Try.prog 14 #[.int .u64 x] w (RefRet (psmall x.toNat).1 (psmall x.toNat).2 w) := by
  obtain ⟨i0, hi, hz0, hz1, hz2⟩ := info_parts u8info
  by_cases hx : 4294967296 ≤ x
  · have hp : psmall x.toNat = ([], 3) := by unfold psmall; rw [if_pos (by omega)]
    rw [hp]
    clear hp
    go_enter Try.func14, Try.ntmps14
    go_wp2
    go_ret2
    exact ⟨_, rfl, OwB.nil _ _, Kept.refl _ _, by simp [Value.ownBlock]⟩
  · have hp : psmall x.toNat = (sm x.toNat, 0) := by unfold psmall; rw [if_neg (by omega)]
    rw [hp]
    clear hp
    by_cases hlo : x ≤ 250
    · have hs : sm x.toNat = [UInt8.ofNat x.toNat] := by unfold sm; rw [if_pos (by omega)]
      rw [hs]
      clear hs
      have hr : RdB (w.alloc (.cells #[.int .u8 x] 5)) (some ⟨w.heap.size, 0, none⟩) 1 1 [UInt8.ofNat x.toNat] := RdB.one _ _ _ _ (by rw [ofNat_toNat]; omega)
      go_enter Try.func14, Try.ntmps14
      go_wp2_with (at_builtin; refine wpList_append_bytes rfl (.tmp 10) (.tmp 13) 25 rfl 5 i0 _ 1 Try.underlying25 hi hz0 hz1 hz2 rfl (.slice none 0 0) [] rfl (OwB.nil _ _) _ 1 1 _ rfl hr (by simp [maxLen]) (by simp) ?_; intro v1 w1 hown1 hk1 hm1; obtain ⟨A1, n1, c1, rfl, hrd1, hbl1⟩ := hown1.form)
      go_ret2
      refine ⟨_, rfl, by simpa using hown1, ((Kept.refl [] w).alloc _).andThen (by simpa [Value.ownBlock] using hk1), ?_⟩
      exact ownBlock_new (e := 5) (w' := w) hm1 (by simp) (by simp [Value.ownBlock])
    · have hp8 := wid_pos x.toNat
      have hs : sm x.toNat = [UInt8.ofNat (250 + wid x.toNat)] ++ be (wid x.toNat) x.toNat := by unfold sm; rw [if_neg (by omega)]; rfl
      rw [hs]
      clear hs
      go_enter Try.func14, Try.ntmps14
      go_wp2_with fail
      refine (width_any _ _ h0 h1).mono ?_
      rintro e w' ⟨rfl, rfl⟩
      have hr : RdB (w.alloc (.cells #[.int .u8 ((250 + (wid x.toNat : Int)) % 256)] 5)) (some ⟨w.heap.size, 0, none⟩) 1 1 [UInt8.ofNat (250 + wid x.toNat)] := RdB.one _ _ _ _ (by rw [ofNat_toNat]; omega)
      go_wp2_with (at_builtin; refine wpList_append_bytes rfl (.tmp 18) (.tmp 22) 25 rfl 5 i0 _ 1 Try.underlying25 hi hz0 hz1 hz2 rfl (.slice none 0 0) [] rfl (OwB.nil _ _) _ 1 1 _ rfl hr (by simp [maxLen]) (by simp) ?_; intro v1 w1 hown1 hk1 hm1; obtain ⟨A1, n1, c1, rfl, hrd1, hbl1⟩ := hown1.form)
      have hkw : Kept [] w w1 := ((Kept.refl [] w).alloc _).andThen (by simpa [Value.ownBlock] using hk1)
      have hnew := ownBlock_new (e := 5) (w' := w) (B := w.heap.size) hm1 (by simp) (by simp [Value.ownBlock])
      refine (rfBytes_any x _ _ h0 h1 (by omega)).mono ?_
      rintro e w2 ⟨v2, rfl, ho2, hk2, hf2⟩
      obtain ⟨A2, n2, c2, rfl, hrd2, hbl2⟩ := ho2.form
      have hown2 : OwB 5 w2 (.slice A1 n1 c1) [UInt8.ofNat (250 + wid x.toNat)] := by simpa using hown1.kept0 hk2
      have hl2 := hrd2.len
      rw [be_length] at hl2
      have hn2 : n2 ≤ 8 := by omega
      clear hl2
      go_wp2_with (at_builtin; refine wpList_append_bytes rfl (.tmp 24) (.tmp 27) 25 rfl 5 i0 _ 1 Try.underlying25 hi hz0 hz1 hz2 rfl (.slice A1 n1 c1) [UInt8.ofNat (250 + wid x.toNat)] rfl hown2 A2 n2 c2 _ rfl hrd2 (by simp [maxLen]; omega) (by simp; omega) ?_; intro v3 w3 hown3 hk3 hm3; obtain ⟨A3, n3, c3, rfl, hrd3, hbl3⟩ := hown3.form)
      go_ret2
      refine ⟨_, rfl, hown3, (hkw.andThen hk2).trans hk3 ?_, ?_⟩
      · intro g hg
        exact .inr (hnew g (by simpa using hg))
      · exact ownBlock_new (e := 5) (w' := w) hm3 (hkw.andThen hk2).size hnew

theorem rfText_any (A : Option Addr) (n c : Nat) (bs : List UInt8) (w : World) (hr : RdB w A n c bs) (hn : n ≤ 65536) : Calls Try.prog 16 #[.slice A n c] w (RefRet (sm n ++ bs) 0 w) := by
  obtain ⟨i0, hi, hz0, hz1, hz2⟩ := info_parts u8info
  have hp : psmall n = (sm n, 0) := by unfold psmall; rw [if_neg (by omega)]
  go_enter Try.func16, Try.ntmps16
  go_wp2_with fail
  refine (rfSmall_any n _ (by omega) (by omega)).mono ?_
  rw [Int.toNat_natCast, hp]
  clear hp
  rintro e w1 ⟨v1, rfl, ho1, hk1, hf1⟩
  obtain ⟨A1, n1, c1, rfl, hrd1, hbl1⟩ := ho1.form
  have hr1 := hr.kept0 hk1
  have hl := sm_length n
  have hf : fol n ≤ 8 := by unfold fol; split; omega; exact (wid_pos n).2
  have hs1 := hk1.size
  go_wp2_with (at_builtin; refine wpList_append_bytes rfl (.tmp 16) (.tmp 17) 25 rfl 5 i0 _ 1 Try.underlying25 hi hz0 hz1 hz2 rfl (.slice A1 n1 c1) (sm n) rfl ho1 A n c _ rfl hr1 (by simp only [maxLen]; omega) (by omega) ?_; intro v3 w3 hown3 hk3 hm3; obtain ⟨A3, n3, c3, rfl, hrd3, hbl3⟩ := hown3.form)
  go_ret2
  refine ⟨_, rfl, hown3, hk1.trans hk3 ?_, ?_⟩
  · intro g hg
    exact .inr (hf1 g (by simpa using hg))
  · exact ownBlock_new (e := 5) (w' := w) hm3 hs1 hf1
end Go.Proofs.Ytfkhlnhnanimkaa
