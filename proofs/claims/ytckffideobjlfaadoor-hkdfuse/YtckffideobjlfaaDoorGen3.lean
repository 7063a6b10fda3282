/-
  General words that stood in layer 3's law texts: guarded operations, comparison, an empty row of one's own, a row cut to nothing. No statement of the seed is proved here.
-/
import Derived.Test.YtckffideobjlfaaDoorHm3
import Derived.Test.YtckffideobjlfaaDoorInfo
import Derived.Laws.IdiomCopy
import Derived.Deep.MidRow
namespace Go.Proofs.YtckffideobjlfaaDoor
open Go.RowKit
set_option linter.unusedVariables false

theorem wpList_unguard {P : Program} {ops : Array Oper} {Q : Exit → Act → World → Prop} {a : Act} {w : World} {rest : List Oper} {o : Oper} (hw : Region.wanted o (yielded ops a.tmps) = true)
    (h : wpList P ops Q ({ o with guard := none } :: rest) a w) : wpList P ops Q (o :: rest) a w := by
  unfold wpList at h ⊢
  rw [if_pos hw]
  rw [if_pos (by simp [Region.wanted])] at h
  cases o
  exact h
theorem same_k (A A' : Option Addr) (n n' c c' : Nat) (xs bs : List UInt8) (w : World) (ha : RdB w A n c xs) (hb : RdB w A' n' c' bs) :
    Calls Tryd.prog 11 #[.slice A n c, .slice A' n' c'] w fun e w' => e = .returned (.bool (xs == bs)) ∧ Kept [] w w' :=
  (same_any A A' n n' c c' xs bs w ha hb).mono fun e w' h => ⟨h.1, by obtain ⟨m, rfl⟩ := h.2; exact (Kept.refl [] w).drewN m⟩
theorem own_empty (w : World) : OwB 5 (w.alloc (.cells #[] 5)) (.slice (some ⟨w.heap.size, 0, none⟩) 0 0) [] := by
  have := World.ownsRow_lit (base := 0) (e := 5) (size := 1) w #[] 0 (Nat.zero_le _) (by simp [maxLen]) rfl
  simpa [OwB, bvs] using this
/-- A row of one's own, cut to its first k. -/
theorem OwB.cut {e : TypeId} {w : World} {A : Option Addr} {n c : Nat} {bs : List UInt8} (h : OwB e w (.slice A n c) bs) (k : Nat) (hk : k ≤ n) : OwB e w (.slice A k c) (bs.take k) := by
  have hl := h.rd.len
  unfold OwB at h ⊢
  have hkl : (bs.take k).length = k := by rw [List.length_take]; omega
  refine ⟨by rw [bvs_length, Nat.mul_one], ?_⟩
  rw [hkl]
  rcases h.2 with ⟨e1, hn⟩ | ⟨g, cap, cur, e1, hb, hg, hnc, hcm, hcs, ht⟩
  · injection e1 with e1 e2 e3
    subst e1 e2 e3
    have : k = 0 := by omega
    subst this
    exact .inl ⟨rfl, rfl⟩
  · injection e1 with e1 e2 e3
    subst e1 e3
    refine .inr ⟨g, c, cur, rfl, hb, hg, by omega, hcm, hcs, ?_⟩
    have h2 := congrArg (List.take (k * 1)) ht
    rw [List.take_take, Nat.min_eq_left (by omega)] at h2
    rw [h2, Nat.mul_one, bvs, bvs, List.map_take]
/-- x[:k], where x begins stays. -/
theorem run_cut_first {P : Program} (t e : TypeId) (ht : P.underlying t = some (.slice e)) (hs : (P.info? e).map (·.size) = some 1) (A : Option Addr) (n c k : Nat) (z : Int) (hz : z = (k : Int)) (hk : k ≤ c) (W : World) :
    (Instr.slice t (.slice A n c) none (some (.int .i64 z)) none).run P W = .ok (.slice A k c) W := by
  subst hz
  have he : P.elem t = e := by simp [Program.elem, ht]
  rw [run_slice_h (P := P) W t A n c (by rw [he]; exact ht) .i64 (k : Int) (by omega) (by omega), size_of_elem t e ht hs W]
  cases A <;> simp [sliced, Result.andThen, Addr.add]
/-- Cells set one behind the other in a known block. -/
theorem Blk.setCells {g : Nat} {t : TypeId} : ∀ (vs : List Value) (w : World) (L : List Value) (off : Nat), Blk w g t L → off + vs.length ≤ L.length → Blk (w.setCells g off vs) g t (splice L off vs)
  | [], w, L, off, h, _ => by rw [splice_nil]; exact h
  | v :: r, w, L, off, h, hl => by
    rw [List.length_cons] at hl
    have h1 := Blk.setCells r (w.setCell ⟨g, off, none⟩ v) (L.set off v) (off + 1) (h.set off v) (by rw [List.length_set]; omega)
    have e : splice (L.set off v) (off + 1) r = splice L off (v :: r) := by
      unfold splice
      have e1 : (L.set off v).take (off + 1) = L.take off ++ [v] := by
        rw [List.take_set, List.take_add_one, List.getElem?_eq_getElem (by omega)]
        rw [List.set_append_right _ _ (by rw [List.length_take]; omega)]
        congr 1
        rw [List.length_take, Nat.min_eq_left (by omega), Nat.sub_self]; rfl
      rw [e1, List.drop_set_of_lt (by omega), List.length_cons, show off + 1 + r.length = off + (r.length + 1) by omega]
      simp only [List.append_assoc, List.nil_append, List.cons_append]
    rw [← e]; exact h1
theorem kept_setCells {g : Nat} : ∀ (vs : List Value) (w : World) (off : Nat), Kept [g] w (w.setCells g off vs)
  | [], w, off => Kept.refl _ _
  | v :: r, w, off => ((Kept.refl [g] w).setCell (p := ⟨g, off, none⟩) (.inl (by simp)) v).trans (kept_setCells r _ _) (by simp)
theorem Blk.setAll {g : Nat} {t : TypeId} {w : World} {L vs : List Value} (h : Blk w g t L) (hl : L.length = vs.length) : Blk (w.setCells g 0 vs) g t vs := by
  have := Blk.setCells vs w L 0 h (by omega)
  have e : splice L 0 vs = vs := by unfold splice; rw [List.take_zero, List.nil_append, Nat.zero_add, ← hl, List.drop_length, List.append_nil]
  rwa [e] at this
theorem Blk.there {g : Nat} {t : TypeId} {w : World} {L : List Value} (h : Blk w g t L) (n : Nat) (hn : n = L.length) : w.there g 0 n := fun j hj => by
  rw [Nat.zero_add, h.cell, List.getElem?_eq_getElem (by omega)]
  exact ⟨rfl, h.frz j⟩
end Go.Proofs.YtckffideobjlfaaDoor
