/-
  Byte slices that are cut, as one equation each; guarded operations; an empty row of one's own. No statement of the seed is proved here.
-/
import Derived.Test.YtibcjbelcplpjaaDoorChecked
import Derived.Test.YtibcjbelcplpjaaDoorCut
import Derived.Test.YtibcjbelcplpjaaDoorSetC
import Derived.Test.YtibcjbelcplpjaaDoorInfo
import Derived.Laws.IdiomCopy
import Derived.Deep.MidRow
namespace Go.Proofs.YtibcjbelcplpjaaDoor
open Go.RowKit
set_option linter.unusedVariables false

theorem wpList_unguard {P : Program} {ops : Array Oper} {Q : Exit → Act → World → Prop} {a : Act} {w : World} {rest : List Oper} {o : Oper} (hw : Region.wanted o (yielded ops a.tmps) = true)
    (h : wpList P ops Q ({ o with guard := none } :: rest) a w) : wpList P ops Q (o :: rest) a w := by
  unfold wpList at h ⊢
  rw [if_pos hw]
  rw [if_pos (by simp [Region.wanted])] at h
  cases o
  exact h
section
variable {P : Program} {w : World} {A : Option Addr} {n c : Nat} {bs : List UInt8}
theorem size_of_elem (t e : TypeId) (ht : P.underlying t = some (.slice e)) (hs : (P.info? e).map (·.size) = some 1) (W : World) : (sizeOf (P.elem t)).run P W = .ok 1 W := by
  cases hq : P.info? e with
  | none => simp [hq] at hs
  | some i =>
    have hi : i.size = 1 := by simpa [hq] using hs
    have he : P.elem t = e := by simp [Program.elem, ht]
    rw [he]; simp [sizeOf, typeInfo, hq, hi]
/-- A byte slice that is cut from one place up to another. -/
theorem RdB.cutMid (h : RdB w A n c bs) (t e : TypeId) (ht : P.underlying t = some (.slice e)) (hs : (P.info? e).map (·.size) = some 1) (l k : Nat) (y z : Int) (hy : y = (l : Int)) (hz : z = (k : Int)) (hl : l ≤ k) (hk : k ≤ n) :
    ∃ A', RdB w A' (k - l) (c - l) ((bs.drop l).take (k - l)) ∧ ∀ W, (Instr.slice t (.slice A n c) (some (.int .i64 y)) (some (.int .i64 z)) none).run P W = .ok (.slice A' (k - l) (c - l)) W := by
  subst hy hz
  have hcap := h.cap
  refine ⟨_, (h.drop l (by omega)).take (k - l) (by omega), fun W => ?_⟩
  have he : P.elem t = e := by simp [Program.elem, ht]
  rw [run_slice_lh (P := P) W t A n c (by rw [he]; exact ht) .i64 .i64 (l : Int) (k : Int) (by omega) (by omega) (by omega), size_of_elem t e ht hs W]
  simp [sliced, Result.andThen]
/-- .. up to a place. -/
theorem RdB.cutTo (h : RdB w A n c bs) (t e : TypeId) (ht : P.underlying t = some (.slice e)) (hs : (P.info? e).map (·.size) = some 1) (k : Nat) (z : Int) (hz : z = (k : Int)) (hk : k ≤ n) :
    ∃ A', RdB w A' k c (bs.take k) ∧ ∀ W, (Instr.slice t (.slice A n c) none (some (.int .i64 z)) none).run P W = .ok (.slice A' k c) W := by
  subst hz
  have hcap := h.cap
  have h0 := (h.drop 0 (by omega)).take k (by omega)
  rw [List.drop_zero, Nat.sub_zero] at h0
  refine ⟨_, h0, fun W => ?_⟩
  have he : P.elem t = e := by simp [Program.elem, ht]
  rw [run_slice_h (P := P) W t A n c (by rw [he]; exact ht) .i64 (k : Int) (by omega) (by omega), size_of_elem t e ht hs W]
  simp [sliced, Result.andThen]
end
/-- A byte slice that is cut from a place on. -/
theorem RdB.cutFrom {P : Program} {w : World} {A : Option Addr} {n c : Nat} {bs : List UInt8} (h : RdB w A n c bs) (t e : TypeId) (ht : P.underlying t = some (.slice e)) (hs : (P.info? e).map (·.size) = some 1) (k : Nat) (z : Int) (hz : z = (k : Int)) (hk : k ≤ n) :
    ∃ A', RdB w A' (n - k) (c - k) (bs.drop k) ∧ (∀ S, Off A S → Off A' S) ∧ ∀ W, (Instr.slice t (.slice A n c) (some (.int .i64 z)) none none).run P W = .ok (.slice A' (n - k) (c - k)) W := by
  subst hz
  have hcap := h.cap
  refine ⟨_, h.drop k hk, ?_, ?_⟩
  · intro S hS
    split
    · exact hS
    · exact off_add hS k
  · intro W
    cases hq : P.info? e with
    | none => simp [hq] at hs
    | some i =>
      have hi : i.size = 1 := by simpa [hq] using hs
      have he : P.elem t = e := by simp [Program.elem, ht]
      rw [run_slice_l (P := P) W t A n c (by rw [he]; exact ht) .i64 (k : Int) (by omega) (by omega)]
      have hz : (sizeOf (P.elem t)).run P W = .ok 1 W := by rw [he]; simp [sizeOf, typeInfo, hq, hi]
      rw [hz]
      simp [sliced, Result.andThen]
/-- x[k:] of a whole row. -/
theorem run_cut_last {P : Program} (t e : TypeId) (ht : P.underlying t = some (.slice e)) (hs : (P.info? e).map (·.size) = some 1) (g n k : Nat) (z : Int) (hz : z = (k : Int)) (hk : k < n) (W : World) :
    (Instr.slice t (.slice (some ⟨g, 0, none⟩) n n) (some (.int .i64 z)) none none).run P W = .ok (.slice (some ⟨g, k, none⟩) (n - k) (n - k)) W := by
  subst hz
  have he : P.elem t = e := by simp [Program.elem, ht]
  rw [run_slice_l (P := P) W t _ n n (by rw [he]; exact ht) .i64 (k : Int) (by omega) (by omega), size_of_elem t e ht hs W]
  simp [sliced, Result.andThen, Addr.add_mid, show n ≠ k by omega]

theorem own_empty (w : World) : OwB 5 (w.alloc (.cells #[] 5)) (.slice (some ⟨w.heap.size, 0, none⟩) 0 0) [] := by
  have := World.ownsRow_lit (base := 0) (e := 5) (size := 1) w #[] 0 (Nat.zero_le _) (by simp [maxLen]) rfl
  simpa [OwB, bvs] using this
/-- A row of one's own, cut to its first k. -/
theorem OwB.cut {e : TypeId} {w : World} {A : Option Addr} {n c : Nat} {bs : List UInt8} (h : OwB e w (.slice A n c) bs) (k : Nat) (hk : k ≤ n) : OwB e w (.slice A k c) (bs.take k) := by
  have hl := h.rd.len
  unfold OwB at h ⊢
  have hkl : (bs.take k).length = k := by rw [List.length_take]; omega
  refine ⟨by rw [bvs_length, Nat.mul_one], ?_⟩
  rw [hkl]
  rcases h.2 with ⟨e1, hn⟩ | ⟨g, cap, cur, e1, hb, hg, hnc, hcm, hcs, ht⟩
  · injection e1 with e1 e2 e3
    subst e1 e2 e3
    have : k = 0 := by omega
    subst this
    exact .inl ⟨rfl, rfl⟩
  · injection e1 with e1 e2 e3
    subst e1 e3
    refine .inr ⟨g, c, cur, rfl, hb, hg, by omega, hcm, hcs, ?_⟩
    have h2 := congrArg (List.take (k * 1)) ht
    rw [List.take_take, Nat.min_eq_left (by omega)] at h2
    rw [h2, Nat.mul_one, bvs, bvs, List.map_take]
/-- x[:k], where x begins stays. -/
theorem run_cut_first {P : Program} (t e : TypeId) (ht : P.underlying t = some (.slice e)) (hs : (P.info? e).map (·.size) = some 1) (A : Option Addr) (n c k : Nat) (z : Int) (hz : z = (k : Int)) (hk : k ≤ c) (W : World) :
    (Instr.slice t (.slice A n c) none (some (.int .i64 z)) none).run P W = .ok (.slice A k c) W := by
  subst hz
  have he : P.elem t = e := by simp [Program.elem, ht]
  rw [run_slice_h (P := P) W t A n c (by rw [he]; exact ht) .i64 (k : Int) (by omega) (by omega), size_of_elem t e ht hs W]
  cases A <;> simp [sliced, Result.andThen, Addr.add]
end Go.Proofs.YtibcjbelcplpjaaDoor
