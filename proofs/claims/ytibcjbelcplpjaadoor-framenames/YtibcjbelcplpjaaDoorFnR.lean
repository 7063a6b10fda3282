/-
  Contracts of layer 13, the document's own: a number's digits, a frame's name. No statement of the seed is proved here.
-/
import Derived.Test.YtibcjbelcplpjaaDoorChecked
import Derived.Test.YtibcjbelcplpjaaDoorFnM
import Derived.Test.YtibcjbelcplpjaaDoorStrA
import Derived.Test.YtibcjbelcplpjaaDoorInfo
import Derived.Test.YtibcjbelcplpjaaDoorMemV
import Derived.Test.YtibcjbelcplpjaaDoorIdM
namespace Go.Proofs.YtibcjbelcplpjaaDoor
open Go.RowKit
set_option linter.unusedVariables false

/-- A string told. -/
def StrRet (l : List UInt8) (w : World) (e : Ending) (w' : World) : Prop := ∃ s : ByteArray, e = .returned (.string s) ∧ strL s = l ∧ Kept [] w w'
theorem decN_len20 {n : Nat} (h : n < 18446744073709551616) : (decN n).length ≤ 20 := decN_length (k := 20) (by omega) (by omega)

theorem dec_step {P : Program} {X x : Nat} {s : ByteArray} (hX : X < 18446744073709551616) (hx : 9 < x) (h : decN X = decN x ++ strL s) :
    ∃ t : ByteArray, (∀ v : World, (Op.stringOp .add ⟨[UInt8.ofNat (48 + x % 10)].toArray⟩ s).run P v = .ok (.string t) v) ∧ decN X = decN (x / 10) ++ strL t := by
  have hl := decN_len20 hX
  rw [h, List.length_append, strL_length] at hl
  refine ⟨(⟨[UInt8.ofNat (48 + x % 10)].toArray⟩ : ByteArray) ++ s, fun v => run_string_add_sum v _ _ (by rw [size_mk]; simp; omega), ?_⟩
  rw [h, decN_hi (by omega), List.append_assoc]
  congr 1
theorem dec_end {P : Program} (HS : ByteArray) {pre R : List UInt8} {X x : Nat} {s : ByteArray} (h1 : strL HS = pre) (hsz : HS.size ≤ 10) (h2 : R = pre ++ decN X) (hX : X < 18446744073709551616) (hx : x < 10) (h : decN X = decN x ++ strL s) :
    ∃ t1 t2 : ByteArray, (∀ v : World, (Op.stringOp .add HS ⟨[UInt8.ofNat (48 + x)].toArray⟩).run P v = .ok (.string t1) v) ∧ (∀ v : World, (Op.stringOp .add t1 s).run P v = .ok (.string t2) v) ∧ strL t2 = R := by
  have hl := decN_len20 hX
  rw [h, List.length_append, strL_length] at hl
  obtain ⟨t1, ht1⟩ := str_mk (pre ++ [UInt8.ofNat (48 + x)])
  obtain ⟨t2, ht2⟩ := str_mk R
  have hp : pre.length ≤ 10 := by rw [← h1, strL_length]; exact hsz
  have hz1 : t1.size ≤ 20 := by rw [← strL_length, ht1]; simp; omega
  refine ⟨t1, t2, fun v => add_rule _ _ _ (by rw [ht1, h1, strL_mk]) (by omega) (by rw [size_mk]; simp) v, fun v => add_rule _ _ _ (by rw [ht2, ht1, h2, h, decN_lo hx]; simp) (by omega) (by omega) v, ht2⟩

set_option maxRecDepth 100000 in
set_option maxHeartbeats 4000000 in
theorem rDec_any (z : Int) (w : World) (h0 : -9223372036854775808 ≤ z) (h1 : z ≤ 9223372036854775807) : Calls Tryd.prog 33 #[.int .i64 z] w (StrRet (decZ z) w) := by
  obtain ⟨R, hR⟩ : ∃ R, decZ z = R := ⟨_, rfl⟩
  rw [hR]
  obtain ⟨X, hX⟩ : ∃ X, z.natAbs = X := ⟨_, rfl⟩
  have hX2 : X < 18446744073709551616 := by omega
  have HS := Lib.hid (fun (x : Nat) (s : ByteArray) => dec_step (P := Tryd.prog) (X := X) (x := x) (s := s) hX2)
  rcases (by omega : z < 0 ∨ ¬ z < 0) with hz | hz
  · have HE := Lib.hid (fun (x : Nat) (s : ByteArray) => dec_end (P := Tryd.prog) (x := x) (s := s) ⟨#[45]⟩ (pre := [45]) (R := R) rfl (by decide) (by rw [← hR, decZ_neg hz, hX]; rfl) hX2)
    have r1 : IntKind.u64.wrap z = z + 18446744073709551616 := by simp [IntKind.wrap, IntKind.bits, IntKind.signed]; omega
    have r2 : IntKind.u64.wrap (-(z + 18446744073709551616)) = (X : Int) := by simp [IntKind.wrap, IntKind.bits, IntKind.signed]; omega
    clear hR
    go_enter Tryd.func33, Tryd.ntmps33
    go_wp2
    go_loopw [3, 5] (fun x o wr => ∃ (k : Nat) (s : ByteArray), x = .int .u64 (k : Int) ∧ o = .string s ∧ k ≤ X ∧ Hid (decN X = decN k ++ strL s) ∧ Hid (Kept [] w wr)) (fun x _ _ => (intOf x).toNat)
    case atStart => exact ⟨X, ⟨#[]⟩, rfl, rfl, Nat.le_refl _, Lib.hid (by simp [strL]), Lib.hid (Kept.refl _ _)⟩
    case round =>
      obtain ⟨k, s, rfl, rfl, hk, Hs, HK⟩ := hrel
      by_cases hlt : 9 < k
      · obtain ⟨t, ht, hd⟩ := HS.out k s hlt Hs.out
        have HT := Lib.hid hd
        have HA : Hid (Kept [] w (wr.alloc (.cells #[.int .u8 (48 + (k : Int) % 10)] 5))) := Lib.hid (HK.out.alloc _)
        have hb : (48 + (k : Int) % 10) = ((UInt8.ofNat (48 + k % 10)).toNat : Int) := by rw [ofNat_toNat]; omega
        generalize UInt8.ofNat (48 + k % 10) = y at *
        have HR1 : Hid (RdB (wr.alloc (.cells #[.int .u8 (48 + (k : Int) % 10)] 5)) (some ⟨wr.heap.size, 0, none⟩) 1 1 [y]) := Lib.hid (RdB.one _ _ _ _ hb)
        have q10 : k < 18446744073709551616 := by omega
        clear hd hb Hs HK
        go_wp2_with (with_reducible change wpList _ _ _ (⟨_, Op.convert 26 9 _, _, _, _, _⟩ :: _) _ _; refine wpList_to_str rfl 26 9 5 (.tmp 18) rfl _ 1 1 [y] rfl HR1.out Tryd.underlying26 Tryd.underlying5 Tryd.underlying9 ?_)
        go_roundw
        case rel => exact ⟨k / 10, t, by go_num, rfl, by omega, HT, HA⟩
        case measure => simp [intOf]; omega
      · obtain ⟨t1, t2, ht1, ht2, hd⟩ := HE.out k s (by omega) Hs.out
        have HT := Lib.hid hd
        have HA : Hid (Kept [] w (wr.alloc (.cells #[.int .u8 (48 + (k : Int))] 5))) := Lib.hid (HK.out.alloc _)
        have hb : (48 + (k : Int)) = ((UInt8.ofNat (48 + k)).toNat : Int) := by rw [ofNat_toNat]; omega
        generalize UInt8.ofNat (48 + k) = y at *
        have HR1 : Hid (RdB (wr.alloc (.cells #[.int .u8 (48 + (k : Int))] 5)) (some ⟨wr.heap.size, 0, none⟩) 1 1 [y]) := Lib.hid (RdB.one _ _ _ _ hb)
        clear hd hb Hs HK
        go_wp2_with (with_reducible change wpList _ _ _ (⟨_, Op.convert 26 9 _, _, _, _, _⟩ :: _) _ _; refine wpList_to_str rfl 26 9 5 (.tmp 28) rfl _ 1 1 [y] rfl HR1.out Tryd.underlying26 Tryd.underlying5 Tryd.underlying9 ?_)
        go_ret
        exact ⟨t2, rfl, HT.out, HA.out⟩
  · have HE := Lib.hid (fun (x : Nat) (s : ByteArray) => dec_end (P := Tryd.prog) (x := x) (s := s) ⟨#[]⟩ (pre := []) (R := R) rfl (by decide) (by rw [← hR, decZ_pos hz, hX]; rfl) hX2)
    have r1 : IntKind.u64.wrap z = (X : Int) := by rw [IntWalk.u64_in _ (by omega)]; omega
    clear hR
    go_enter Tryd.func33, Tryd.ntmps33
    go_wp2
    go_loopw [3, 5] (fun x o wr => ∃ (k : Nat) (s : ByteArray), x = .int .u64 (k : Int) ∧ o = .string s ∧ k ≤ X ∧ Hid (decN X = decN k ++ strL s) ∧ Hid (Kept [] w wr)) (fun x _ _ => (intOf x).toNat)
    case atStart => exact ⟨X, ⟨#[]⟩, rfl, rfl, Nat.le_refl _, Lib.hid (by simp [strL]), Lib.hid (Kept.refl _ _)⟩
    case round =>
      obtain ⟨k, s, rfl, rfl, hk, Hs, HK⟩ := hrel
      by_cases hlt : 9 < k
      · obtain ⟨t, ht, hd⟩ := HS.out k s hlt Hs.out
        have HT := Lib.hid hd
        have HA : Hid (Kept [] w (wr.alloc (.cells #[.int .u8 (48 + (k : Int) % 10)] 5))) := Lib.hid (HK.out.alloc _)
        have hb : (48 + (k : Int) % 10) = ((UInt8.ofNat (48 + k % 10)).toNat : Int) := by rw [ofNat_toNat]; omega
        generalize UInt8.ofNat (48 + k % 10) = y at *
        have HR1 : Hid (RdB (wr.alloc (.cells #[.int .u8 (48 + (k : Int) % 10)] 5)) (some ⟨wr.heap.size, 0, none⟩) 1 1 [y]) := Lib.hid (RdB.one _ _ _ _ hb)
        have q10 : k < 18446744073709551616 := by omega
        clear hd hb Hs HK
        go_wp2_with (with_reducible change wpList _ _ _ (⟨_, Op.convert 26 9 _, _, _, _, _⟩ :: _) _ _; refine wpList_to_str rfl 26 9 5 (.tmp 18) rfl _ 1 1 [y] rfl HR1.out Tryd.underlying26 Tryd.underlying5 Tryd.underlying9 ?_)
        go_roundw
        case rel => exact ⟨k / 10, t, by go_num, rfl, by omega, HT, HA⟩
        case measure => simp [intOf]; omega
      · obtain ⟨t1, t2, ht1, ht2, hd⟩ := HE.out k s (by omega) Hs.out
        have HT := Lib.hid hd
        have HA : Hid (Kept [] w (wr.alloc (.cells #[.int .u8 (48 + (k : Int))] 5))) := Lib.hid (HK.out.alloc _)
        have hb : (48 + (k : Int)) = ((UInt8.ofNat (48 + k)).toNat : Int) := by rw [ofNat_toNat]; omega
        generalize UInt8.ofNat (48 + k) = y at *
        have HR1 : Hid (RdB (wr.alloc (.cells #[.int .u8 (48 + (k : Int))] 5)) (some ⟨wr.heap.size, 0, none⟩) 1 1 [y]) := Lib.hid (RdB.one _ _ _ _ hb)
        clear hd hb Hs HK
        go_wp2_with (with_reducible change wpList _ _ _ (⟨_, Op.convert 26 9 _, _, _, _, _⟩ :: _) _ _; refine wpList_to_str rfl 26 9 5 (.tmp 28) rfl _ 1 1 [y] rfl HR1.out Tryd.underlying26 Tryd.underlying5 Tryd.underlying9 ?_)
        go_ret
        exact ⟨t2, rfl, HT.out, HA.out⟩
end Go.Proofs.YtibcjbelcplpjaaDoor
