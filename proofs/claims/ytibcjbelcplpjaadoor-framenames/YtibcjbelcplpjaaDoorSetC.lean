/-
  Helper words on memory, going on: a piece of a block stored whole. No statement of the seed is proved here.
-/
import Derived.Test.YtibcjbelcplpjaaDoorBlk
import Derived.Laws.IdiomCopy
import Derived.StillTailTactics
namespace Go.Proofs.YtibcjbelcplpjaaDoor
open Go.RowKit
set_option linter.unusedVariables false

theorem Blk.setCells {g : Nat} {t : TypeId} : ∀ (vs : List Value) (w : World) (L : List Value) (off : Nat), Blk w g t L → off + vs.length ≤ L.length → Blk (w.setCells g off vs) g t (splice L off vs)
  | [], w, L, off, h, _ => by rw [splice_nil]; exact h
  | v :: r, w, L, off, h, hl => by
    rw [List.length_cons] at hl
    have h1 := Blk.setCells r (w.setCell ⟨g, off, none⟩ v) (L.set off v) (off + 1) (h.set off v) (by rw [List.length_set]; omega)
    have e : splice (L.set off v) (off + 1) r = splice L off (v :: r) := by
      unfold splice
      have e1 : (L.set off v).take (off + 1) = L.take off ++ [v] := by
        rw [List.take_set, List.take_add_one, List.getElem?_eq_getElem (by omega)]
        rw [List.set_append_right _ _ (by rw [List.length_take]; omega)]
        congr 1
        rw [List.length_take, Nat.min_eq_left (by omega), Nat.sub_self]; rfl
      rw [e1, List.drop_set_of_lt (by omega), List.length_cons, show off + 1 + r.length = off + (r.length + 1) by omega]
      simp only [List.append_assoc, List.nil_append, List.cons_append]
    rw [← e]; exact h1
theorem kept_setCells {g : Nat} : ∀ (vs : List Value) (w : World) (off : Nat), Kept [g] w (w.setCells g off vs)
  | [], w, off => Kept.refl _ _
  | v :: r, w, off => ((Kept.refl [g] w).setCell (p := ⟨g, off, none⟩) (.inl (by simp)) v).trans (kept_setCells r _ _) (by simp)
theorem Blk.setAll {g : Nat} {t : TypeId} {w : World} {L vs : List Value} (h : Blk w g t L) (hl : L.length = vs.length) : Blk (w.setCells g 0 vs) g t vs := by
  have := Blk.setCells vs w L 0 h (by omega)
  have e : splice L 0 vs = vs := by unfold splice; rw [List.take_zero, List.nil_append, Nat.zero_add, ← hl, List.drop_length, List.append_nil]
  rwa [e] at this
theorem Blk.there {g : Nat} {t : TypeId} {w : World} {L : List Value} (h : Blk w g t L) (n : Nat) (hn : n = L.length) : w.there g 0 n := fun j hj => by
  rw [Nat.zero_add, h.cell, List.getElem?_eq_getElem (by omega)]
  exact ⟨rfl, h.frz j⟩
theorem Blk.thereAt {g : Nat} {t : TypeId} {w : World} {L : List Value} (h : Blk w g t L) (o n : Nat) (hn : o + n ≤ L.length) : w.there g o n := fun j hj => by
  rw [h.cell, List.getElem?_eq_getElem (by omega)]
  exact ⟨rfl, h.frz _⟩
theorem Blk.rangeOf {w : World} {g : Nat} {t : TypeId} {cs : List Value} (h : Blk w g t cs) : w.rangeAt g 0 cs := fun j v hv => by rw [Nat.zero_add, h.cell]; exact hv
/-- A region that draws, all of whose operations but the last ones read: an array or a struct loaded whole. -/
theorem wpStill_load_blk {P : Program} {ops : Array Oper} {rest : List Oper} {o : Oper} {a : Act} {w : World} {Q : Act → Prop} (hgd : o.guard = none) (ty : TypeId) (x : Operand) (ho : o.op = .load ty x)
    (g off : Nat) (hx : a.eval x = .pointer (some ⟨g, off, none⟩)) (cs : List Value) (d : TypeDesc) (hc : w.rangeAt g off cs) (hu : P.underlying ty = some d) (hd : d.isRow = true) (hi : (P.info? ty).map (·.size) = some cs.length)
    (h : wpStill P ops w Q rest (a.put o.dst (.agg cs.toArray))) : wpStill P ops w Q (o :: rest) a := by
  unfold wpStill
  rw [if_pos (by simp [Region.wanted, hgd])]
  unfold Oper.still execOp
  simp only [ho, hx, Instr.loadAt, Instr.sureAddr, Sem.run_bind, Sem.run_pure, Result.andThen_ok, run_loadVar_mid w g off ty cs d hc hu hd hi, Oper.stillUpon]
  exact ⟨trivial, h⟩
theorem OwB.blk {e : TypeId} {w : World} {g n : Nat} {bs : List UInt8} (h : OwB e w (.slice (some ⟨g, 0, none⟩) n n) bs) : Blk w g e (bvs bs) := by
  have hl := h.rd.len
  unfold OwB at h
  rcases h.2 with ⟨e1, _⟩ | ⟨g', cap, cur, e1, _, hg, _, _, hcs, ht⟩
  · cases e1
  · injection e1 with e1 e2 e3
    injection e1 with e1; injection e1 with e1
    subst e1 e3
    have : cur = (bvs bs).toArray := by
      rw [← ht, List.take_of_length_le (by simp; omega)]
    subst this
    exact hg
theorem Blk.own {e : TypeId} {w : World} {g n : Nat} {bs : List UInt8} (h : Blk w g e (bvs bs)) (hl : bs.length = n) (hn : n ≤ maxLen) : OwB e w (.slice (some ⟨g, 0, none⟩) n n) bs := by
  subst hl
  exact ⟨by rw [bvs_length, Nat.mul_one], .inr ⟨g, _, _, rfl, Nat.zero_le _, h, Nat.le_refl _, hn, by simp [bvs], by rw [Nat.mul_one, List.take_of_length_le (by simp [bvs])]⟩⟩
end Go.Proofs.YtibcjbelcplpjaaDoor
