/-
  Plain facts on the cells of a digest under way: what a copy and a store leave, layer 2 (sha). No statement of the seed is proved here.
-/
import Derived.Test.YtmhigipljplgdaaDoorSha4
import Derived.Test.YtmhigipljplgdaaDoorCuts
namespace Go.Proofs.YtmhigipljplgdaaDoor
open Go.RowKit
set_option linter.unusedVariables false

theorem stl8 (s : St) : (wvs s.l).length = 8 := rfl
theorem wkc_held (s : St) (blk : List UInt8) (held len : Int) (hb : blk.length = 64) : (wkc s blk held len)[72]? = some (.int .i64 held) := by
  rw [wkc, List.getElem?_append_right (by rw [stl8]; decide), stl8, List.getElem?_append_right (by rw [bvs_length, hb]; decide), bvs_length, hb]
  rfl
theorem wkc_len (s : St) (blk : List UInt8) (held len : Int) (hb : blk.length = 64) : (wkc s blk held len)[73]? = some (.int .u64 len) := by
  rw [wkc, List.getElem?_append_right (by rw [stl8]; decide), stl8, List.getElem?_append_right (by rw [bvs_length, hb]; decide), bvs_length, hb]
  rfl
theorem wkc_set_held (s : St) (blk : List UInt8) (held len x : Int) (hb : blk.length = 64) : (wkc s blk held len).set 72 (.int .i64 x) = wkc s blk x len := by
  unfold wkc
  rw [List.set_append_right _ _ (by rw [stl8]; decide), stl8, List.set_append_right _ _ (by rw [bvs_length, hb]; decide), bvs_length, hb]
  rfl
theorem wkc_set_len (s : St) (blk : List UInt8) (held len x : Int) (hb : blk.length = 64) : (wkc s blk held len).set 73 (.int .u64 x) = wkc s blk held x := by
  unfold wkc
  rw [List.set_append_right _ _ (by rw [stl8]; decide), stl8, List.set_append_right _ _ (by rw [bvs_length, hb]; decide), bvs_length, hb]
  rfl
theorem splice_len {α : Type} (L : List α) (off : Nat) (cs : List α) (h : off + cs.length ≤ L.length) : (splice L off cs).length = L.length := length_splice L off cs h
theorem wkc_splice (s : St) (blk : List UInt8) (held len : Int) (h : Nat) (u : List UInt8) (hb : blk.length = 64) (hu : h + u.length ≤ 64) : splice (wkc s blk held len) (8 + h) (bvs u) = wkc s (splice blk h u) held len := by
  have e8 : (wvs s.l).length = 8 := rfl
  unfold splice wkc
  rw [List.take_append, List.take_of_length_le (by omega), e8, Nat.add_sub_cancel_left, List.append_assoc]
  congr 1
  rw [List.take_append_of_le_length (by rw [bvs_length]; omega)]
  have e1 : (bvs blk).take h = bvs (blk.take h) := by simp [bvs, List.map_take]
  rw [e1, List.drop_append, List.drop_of_length_le (by rw [bvs_length]; omega), List.nil_append, e8, bvs_length]
  rw [show 8 + h + u.length - 8 = h + u.length by omega, List.drop_append_of_le_length (by rw [bvs_length]; omega)]
  have e2 : (bvs blk).drop (h + u.length) = bvs (blk.drop (h + u.length)) := by simp [bvs, List.map_drop]
  rw [e2, bvs_append, bvs_append]
  simp only [List.append_assoc]
theorem splice_take {α : Type} (L : List α) (off : Nat) (cs : List α) (h : off + cs.length ≤ L.length) : (splice L off cs).take (off + cs.length) = L.take off ++ cs := by
  unfold splice
  rw [← List.append_assoc, List.take_append_of_le_length (by rw [List.length_append, List.length_take]; omega), List.take_of_length_le (by rw [List.length_append, List.length_take]; omega)]

/-- What waits of a text: the bytes behind its whole blocks. -/
def waits (bs : List UInt8) : List UInt8 := bs.drop (64 * (bs.length / 64))
theorem waits_length (bs : List UInt8) : (waits bs).length = bs.length % 64 := by unfold waits; rw [List.length_drop]; omega
theorem waits_more (bs u : List UInt8) (h : bs.length % 64 + u.length < 64) : waits (bs ++ u) = waits bs ++ u := by
  unfold waits
  rw [List.length_append, show (bs.length + u.length) / 64 = bs.length / 64 by omega, List.drop_append_of_le_length (by omega)]
theorem waits_full (bs u : List UInt8) (h : bs.length % 64 + u.length = 64) : waits (bs ++ u) = [] := by
  apply List.eq_nil_of_length_eq_zero
  rw [waits_length, List.length_append]; omega

/-- A digest under way at block p: it has taken bs, and its count of bytes is L. -/
def WkL (w : World) (p : Nat) (t : TypeId) (bs : List UInt8) (L : Nat) : Prop :=
  ∃ blk : List UInt8, blk.length = 64 ∧ Blk w p t (wkc (run st0 bs) blk ((bs.length % 64 : Nat) : Int) (L : Int)) ∧ blk.take (bs.length % 64) = waits bs
theorem WkL.kept {w w' : World} {p : Nat} {t : TypeId} {bs : List UInt8} {L : Nat} {S : List Nat} (h : WkL w p t bs L) (hk : Kept S w w') (hS : p ∉ S) : WkL w' p t bs L := by
  obtain ⟨blk, h1, h2, h3⟩ := h
  exact ⟨blk, h1, h2.kept hk hS, h3⟩
theorem WkL.kept0 {w w' : World} {p : Nat} {t : TypeId} {bs : List UInt8} {L : Nat} (h : WkL w p t bs L) (hk : Kept [] w w') : WkL w' p t bs L := h.kept hk (by simp)
theorem WkL.lt {w : World} {p : Nat} {t : TypeId} {bs : List UInt8} {L : Nat} (h : WkL w p t bs L) : p < w.heap.size := by
  obtain ⟨blk, h1, h2, h3⟩ := h
  exact h2.lt

/-- copy into a block that is known. -/
theorem wpList_copy_blk {P : Program} {w : World} {ops : Array Oper} {rest : List Oper} {o : Oper} {a : Act} {Q : Exit → Act → World → Prop} (hgd : o.guard = none) (d s : Operand) (dT : TypeId)
    (ho : o.op = .call { callee := .builtin .copy, args := #[d, s], argTypes := #[dT, dT] }) (elem : TypeId) (hu : P.underlying dT = some (.slice elem)) (hsz : (P.info? elem).map (·.size) = some 1)
    (g off dLen dCap : Nat) (A : Option Addr) (n c : Nat) (bs : List UInt8) (hd : a.eval d = .slice (some ⟨g, off, none⟩) dLen dCap) (hs : a.eval s = .slice A n c) (hr : RdB w A n c bs) (hn : 0 < n)
    (t : TypeId) (cur : List Value) (hg : Blk w g t cur) (m : Nat) (hm : m = min n dLen) (hfit : off + m ≤ cur.length)
    (h : ∀ w', Blk w' g t (splice cur off (bvs (bs.take m))) → Kept [g] w w' → wpList P ops Q rest (a.put o.dst (.int .i64 m)) w') : wpList P ops Q (o :: rest) a w := by
  have hl := hr.len
  obtain ⟨b, o2, rfl, _, _⟩ := hr.at_ hn
  have hlen : (bvs (bs.take m)).length = m := by rw [bvs_length, List.length_take]; omega
  refine wpList_copy_own hgd d s dT dT ho elem hu hsz g off dLen dCap ⟨b, o2, none⟩ n c hd hs cur.toArray t hg (bvs (bs.take m)) (by rw [hlen, hm]) (fun j v hv => ?_) (by rw [hlen]; simpa using hfit) (bvs_one _) ?_
  · refine hr.news j v ?_
    have : bvs (bs.take m) = (bvs bs).take m := by simp [bvs, List.map_take]
    rw [this, List.getElem?_take] at hv
    split at hv
    · exact hv
    · cases hv
  · rw [hlen]
    refine h _ ?_ ⟨rfl, rfl, rfl, by simp, fun k _ hk => setRow_other w g k _ (by simpa using hk)⟩
    have := setRow_heap w g _ (cur.toArray.toList.take off ++ (bvs (bs.take m) ++ cur.toArray.toList.drop (off + m))).toArray t _ hg
    unfold Blk splice
    rw [hlen]
    exact this
end Go.Proofs.YtmhigipljplgdaaDoor
