/-
  Texts of mine, one behind the other, in one file. No statement of the seed is proved here.
-/
import Derived.Test.YtibcjbelcplpjaaDoorChecked
import Derived.Test.YtibcjbelcplpjaaDoorPd
import Derived.Laws.IdiomCopy
import Derived.Deep.MidRow
import Derived.Stop.BytesEq
import Derived.Lib.SlBytesConst
import Derived.Deep.RegionHeld3
import Derived.OpenShut
import Derived.Deep.QuietTactic
import Derived.BigQuiet
import Derived.Outline
import Derived.Great.Walk
import Derived.WalkKit
import Derived.Deep.Cut
import Derived.StillTailTactics
import Derived.Deep.RegionLaw
/-
  Byte slices that are cut, as one equation each; guarded operations; an empty row of one's own. No statement of the seed is proved here.
-/
namespace Go.Proofs.YtibcjbelcplpjaaDoor
open Go.RowKit
set_option linter.unusedVariables false

theorem wpList_unguard {P : Program} {ops : Array Oper} {Q : Exit → Act → World → Prop} {a : Act} {w : World} {rest : List Oper} {o : Oper} (hw : Region.wanted o (yielded ops a.tmps) = true)
    (h : wpList P ops Q ({ o with guard := none } :: rest) a w) : wpList P ops Q (o :: rest) a w := by
  unfold wpList at h ⊢
  rw [if_pos hw]
  rw [if_pos (by simp [Region.wanted])] at h
  cases o
  exact h
section
variable {P : Program} {w : World} {A : Option Addr} {n c : Nat} {bs : List UInt8}
theorem size_of_elem (t e : TypeId) (ht : P.underlying t = some (.slice e)) (hs : (P.info? e).map (·.size) = some 1) (W : World) : (sizeOf (P.elem t)).run P W = .ok 1 W := by
  cases hq : P.info? e with
  | none => simp [hq] at hs
  | some i =>
    have hi : i.size = 1 := by simpa [hq] using hs
    have he : P.elem t = e := by simp [Program.elem, ht]
    rw [he]; simp [sizeOf, typeInfo, hq, hi]
/-- A byte slice that is cut from one place up to another. -/
theorem RdB.cutMid (h : RdB w A n c bs) (t e : TypeId) (ht : P.underlying t = some (.slice e)) (hs : (P.info? e).map (·.size) = some 1) (l k : Nat) (y z : Int) (hy : y = (l : Int)) (hz : z = (k : Int)) (hl : l ≤ k) (hk : k ≤ n) :
    ∃ A', RdB w A' (k - l) (c - l) ((bs.drop l).take (k - l)) ∧ ∀ W, (Instr.slice t (.slice A n c) (some (.int .i64 y)) (some (.int .i64 z)) none).run P W = .ok (.slice A' (k - l) (c - l)) W := by
  subst hy hz
  have hcap := h.cap
  refine ⟨_, (h.drop l (by omega)).take (k - l) (by omega), fun W => ?_⟩
  have he : P.elem t = e := by simp [Program.elem, ht]
  rw [run_slice_lh (P := P) W t A n c (by rw [he]; exact ht) .i64 .i64 (l : Int) (k : Int) (by omega) (by omega) (by omega), size_of_elem t e ht hs W]
  simp [sliced, Result.andThen]
/-- .. up to a place. -/
theorem RdB.cutTo (h : RdB w A n c bs) (t e : TypeId) (ht : P.underlying t = some (.slice e)) (hs : (P.info? e).map (·.size) = some 1) (k : Nat) (z : Int) (hz : z = (k : Int)) (hk : k ≤ n) :
    ∃ A', RdB w A' k c (bs.take k) ∧ ∀ W, (Instr.slice t (.slice A n c) none (some (.int .i64 z)) none).run P W = .ok (.slice A' k c) W := by
  subst hz
  have hcap := h.cap
  have h0 := (h.drop 0 (by omega)).take k (by omega)
  rw [List.drop_zero, Nat.sub_zero] at h0
  refine ⟨_, h0, fun W => ?_⟩
  have he : P.elem t = e := by simp [Program.elem, ht]
  rw [run_slice_h (P := P) W t A n c (by rw [he]; exact ht) .i64 (k : Int) (by omega) (by omega), size_of_elem t e ht hs W]
  simp [sliced, Result.andThen]
end
/-- A byte slice that is cut from a place on. -/
theorem RdB.cutFrom {P : Program} {w : World} {A : Option Addr} {n c : Nat} {bs : List UInt8} (h : RdB w A n c bs) (t e : TypeId) (ht : P.underlying t = some (.slice e)) (hs : (P.info? e).map (·.size) = some 1) (k : Nat) (z : Int) (hz : z = (k : Int)) (hk : k ≤ n) :
    ∃ A', RdB w A' (n - k) (c - k) (bs.drop k) ∧ (∀ S, Off A S → Off A' S) ∧ ∀ W, (Instr.slice t (.slice A n c) (some (.int .i64 z)) none none).run P W = .ok (.slice A' (n - k) (c - k)) W := by
  subst hz
  have hcap := h.cap
  refine ⟨_, h.drop k hk, ?_, ?_⟩
  · intro S hS
    split
    · exact hS
    · exact off_add hS k
  · intro W
    cases hq : P.info? e with
    | none => simp [hq] at hs
    | some i =>
      have hi : i.size = 1 := by simpa [hq] using hs
      have he : P.elem t = e := by simp [Program.elem, ht]
      rw [run_slice_l (P := P) W t A n c (by rw [he]; exact ht) .i64 (k : Int) (by omega) (by omega)]
      have hz : (sizeOf (P.elem t)).run P W = .ok 1 W := by rw [he]; simp [sizeOf, typeInfo, hq, hi]
      rw [hz]
      simp [sliced, Result.andThen]
/-- x[k:] of a whole row. -/
theorem run_cut_last {P : Program} (t e : TypeId) (ht : P.underlying t = some (.slice e)) (hs : (P.info? e).map (·.size) = some 1) (g n k : Nat) (z : Int) (hz : z = (k : Int)) (hk : k < n) (W : World) :
    (Instr.slice t (.slice (some ⟨g, 0, none⟩) n n) (some (.int .i64 z)) none none).run P W = .ok (.slice (some ⟨g, k, none⟩) (n - k) (n - k)) W := by
  subst hz
  have he : P.elem t = e := by simp [Program.elem, ht]
  rw [run_slice_l (P := P) W t _ n n (by rw [he]; exact ht) .i64 (k : Int) (by omega) (by omega), size_of_elem t e ht hs W]
  simp [sliced, Result.andThen, Addr.add_mid, show n ≠ k by omega]

theorem own_empty (w : World) : OwB 5 (w.alloc (.cells #[] 5)) (.slice (some ⟨w.heap.size, 0, none⟩) 0 0) [] := by
  have := World.ownsRow_lit (base := 0) (e := 5) (size := 1) w #[] 0 (Nat.zero_le _) (by simp [maxLen]) rfl
  simpa [OwB, bvs] using this
/-- A row of one's own, cut to its first k. -/
theorem OwB.cut {e : TypeId} {w : World} {A : Option Addr} {n c : Nat} {bs : List UInt8} (h : OwB e w (.slice A n c) bs) (k : Nat) (hk : k ≤ n) : OwB e w (.slice A k c) (bs.take k) := by
  have hl := h.rd.len
  unfold OwB at h ⊢
  have hkl : (bs.take k).length = k := by rw [List.length_take]; omega
  refine ⟨by rw [bvs_length, Nat.mul_one], ?_⟩
  rw [hkl]
  rcases h.2 with ⟨e1, hn⟩ | ⟨g, cap, cur, e1, hb, hg, hnc, hcm, hcs, ht⟩
  · injection e1 with e1 e2 e3
    subst e1 e2 e3
    have : k = 0 := by omega
    subst this
    exact .inl ⟨rfl, rfl⟩
  · injection e1 with e1 e2 e3
    subst e1 e3
    refine .inr ⟨g, c, cur, rfl, hb, hg, by omega, hcm, hcs, ?_⟩
    have h2 := congrArg (List.take (k * 1)) ht
    rw [List.take_take, Nat.min_eq_left (by omega)] at h2
    rw [h2, Nat.mul_one, bvs, bvs, List.map_take]
/-- x[:k], where x begins stays. -/
theorem run_cut_first {P : Program} (t e : TypeId) (ht : P.underlying t = some (.slice e)) (hs : (P.info? e).map (·.size) = some 1) (A : Option Addr) (n c k : Nat) (z : Int) (hz : z = (k : Int)) (hk : k ≤ c) (W : World) :
    (Instr.slice t (.slice A n c) none (some (.int .i64 z)) none).run P W = .ok (.slice A k c) W := by
  subst hz
  have he : P.elem t = e := by simp [Program.elem, ht]
  rw [run_slice_h (P := P) W t A n c (by rw [he]; exact ht) .i64 (k : Int) (by omega) (by omega), size_of_elem t e ht hs W]
  cases A <;> simp [sliced, Result.andThen, Addr.add]
end Go.Proofs.YtibcjbelcplpjaaDoor
/-
  Plain facts on the cells of a digest under way: what a copy and a store leave, layer 2 (sha). No statement of the seed is proved here.
-/
namespace Go.Proofs.YtibcjbelcplpjaaDoor
open Go.RowKit
set_option linter.unusedVariables false

theorem stl8 (s : St) : (wvs s.l).length = 8 := rfl
theorem wkc_held (s : St) (blk : List UInt8) (held len : Int) (hb : blk.length = 64) : (wkc s blk held len)[72]? = some (.int .i64 held) := by
  rw [wkc, List.getElem?_append_right (by rw [stl8]; decide), stl8, List.getElem?_append_right (by rw [bvs_length, hb]; decide), bvs_length, hb]
  rfl
theorem wkc_len (s : St) (blk : List UInt8) (held len : Int) (hb : blk.length = 64) : (wkc s blk held len)[73]? = some (.int .u64 len) := by
  rw [wkc, List.getElem?_append_right (by rw [stl8]; decide), stl8, List.getElem?_append_right (by rw [bvs_length, hb]; decide), bvs_length, hb]
  rfl
theorem wkc_set_held (s : St) (blk : List UInt8) (held len x : Int) (hb : blk.length = 64) : (wkc s blk held len).set 72 (.int .i64 x) = wkc s blk x len := by
  unfold wkc
  rw [List.set_append_right _ _ (by rw [stl8]; decide), stl8, List.set_append_right _ _ (by rw [bvs_length, hb]; decide), bvs_length, hb]
  rfl
theorem wkc_set_len (s : St) (blk : List UInt8) (held len x : Int) (hb : blk.length = 64) : (wkc s blk held len).set 73 (.int .u64 x) = wkc s blk held x := by
  unfold wkc
  rw [List.set_append_right _ _ (by rw [stl8]; decide), stl8, List.set_append_right _ _ (by rw [bvs_length, hb]; decide), bvs_length, hb]
  rfl
theorem splice_len {α : Type} (L : List α) (off : Nat) (cs : List α) (h : off + cs.length ≤ L.length) : (splice L off cs).length = L.length := length_splice L off cs h
theorem wkc_splice (s : St) (blk : List UInt8) (held len : Int) (h : Nat) (u : List UInt8) (hb : blk.length = 64) (hu : h + u.length ≤ 64) : splice (wkc s blk held len) (8 + h) (bvs u) = wkc s (splice blk h u) held len := by
  have e8 : (wvs s.l).length = 8 := rfl
  unfold splice wkc
  rw [List.take_append, List.take_of_length_le (by omega), e8, Nat.add_sub_cancel_left, List.append_assoc]
  congr 1
  rw [List.take_append_of_le_length (by rw [bvs_length]; omega)]
  have e1 : (bvs blk).take h = bvs (blk.take h) := by simp [bvs, List.map_take]
  rw [e1, List.drop_append, List.drop_of_length_le (by rw [bvs_length]; omega), List.nil_append, e8, bvs_length]
  rw [show 8 + h + u.length - 8 = h + u.length by omega, List.drop_append_of_le_length (by rw [bvs_length]; omega)]
  have e2 : (bvs blk).drop (h + u.length) = bvs (blk.drop (h + u.length)) := by simp [bvs, List.map_drop]
  rw [e2, bvs_append, bvs_append]
  simp only [List.append_assoc]
theorem splice_take {α : Type} (L : List α) (off : Nat) (cs : List α) (h : off + cs.length ≤ L.length) : (splice L off cs).take (off + cs.length) = L.take off ++ cs := by
  unfold splice
  rw [← List.append_assoc, List.take_append_of_le_length (by rw [List.length_append, List.length_take]; omega), List.take_of_length_le (by rw [List.length_append, List.length_take]; omega)]

/-- What waits of a text: the bytes behind its whole blocks. -/
def waits (bs : List UInt8) : List UInt8 := bs.drop (64 * (bs.length / 64))
theorem waits_length (bs : List UInt8) : (waits bs).length = bs.length % 64 := by unfold waits; rw [List.length_drop]; omega
theorem waits_more (bs u : List UInt8) (h : bs.length % 64 + u.length < 64) : waits (bs ++ u) = waits bs ++ u := by
  unfold waits
  rw [List.length_append, show (bs.length + u.length) / 64 = bs.length / 64 by omega, List.drop_append_of_le_length (by omega)]
theorem waits_full (bs u : List UInt8) (h : bs.length % 64 + u.length = 64) : waits (bs ++ u) = [] := by
  apply List.eq_nil_of_length_eq_zero
  rw [waits_length, List.length_append]; omega

/-- A digest under way at block p: it has taken bs, and its count of bytes is L. -/
def WkL (w : World) (p : Nat) (t : TypeId) (bs : List UInt8) (L : Nat) : Prop :=
  ∃ blk : List UInt8, blk.length = 64 ∧ Blk w p t (wkc (run st0 bs) blk ((bs.length % 64 : Nat) : Int) (L : Int)) ∧ blk.take (bs.length % 64) = waits bs
theorem WkL.kept {w w' : World} {p : Nat} {t : TypeId} {bs : List UInt8} {L : Nat} {S : List Nat} (h : WkL w p t bs L) (hk : Kept S w w') (hS : p ∉ S) : WkL w' p t bs L := by
  obtain ⟨blk, h1, h2, h3⟩ := h
  exact ⟨blk, h1, h2.kept hk hS, h3⟩
theorem WkL.kept0 {w w' : World} {p : Nat} {t : TypeId} {bs : List UInt8} {L : Nat} (h : WkL w p t bs L) (hk : Kept [] w w') : WkL w' p t bs L := h.kept hk (by simp)
theorem WkL.lt {w : World} {p : Nat} {t : TypeId} {bs : List UInt8} {L : Nat} (h : WkL w p t bs L) : p < w.heap.size := by
  obtain ⟨blk, h1, h2, h3⟩ := h
  exact h2.lt

/-- copy into a block that is known. -/
theorem wpList_copy_blk {P : Program} {w : World} {ops : Array Oper} {rest : List Oper} {o : Oper} {a : Act} {Q : Exit → Act → World → Prop} (hgd : o.guard = none) (d s : Operand) (dT : TypeId)
    (ho : o.op = .call { callee := .builtin .copy, args := #[d, s], argTypes := #[dT, dT] }) (elem : TypeId) (hu : P.underlying dT = some (.slice elem)) (hsz : (P.info? elem).map (·.size) = some 1)
    (g off dLen dCap : Nat) (A : Option Addr) (n c : Nat) (bs : List UInt8) (hd : a.eval d = .slice (some ⟨g, off, none⟩) dLen dCap) (hs : a.eval s = .slice A n c) (hr : RdB w A n c bs) (hn : 0 < n)
    (t : TypeId) (cur : List Value) (hg : Blk w g t cur) (m : Nat) (hm : m = min n dLen) (hfit : off + m ≤ cur.length)
    (h : ∀ w', Blk w' g t (splice cur off (bvs (bs.take m))) → Kept [g] w w' → wpList P ops Q rest (a.put o.dst (.int .i64 m)) w') : wpList P ops Q (o :: rest) a w := by
  have hl := hr.len
  obtain ⟨b, o2, rfl, _, _⟩ := hr.at_ hn
  have hlen : (bvs (bs.take m)).length = m := by rw [bvs_length, List.length_take]; omega
  refine wpList_copy_own hgd d s dT dT ho elem hu hsz g off dLen dCap ⟨b, o2, none⟩ n c hd hs cur.toArray t hg (bvs (bs.take m)) (by rw [hlen, hm]) (fun j v hv => ?_) (by rw [hlen]; simpa using hfit) (bvs_one _) ?_
  · refine hr.news j v ?_
    have : bvs (bs.take m) = (bvs bs).take m := by simp [bvs, List.map_take]
    rw [this, List.getElem?_take] at hv
    split at hv
    · exact hv
    · cases hv
  · rw [hlen]
    refine h _ ?_ ⟨rfl, rfl, rfl, by simp, fun k _ hk => setRow_other w g k _ (by simpa using hk)⟩
    have := setRow_heap w g _ (cur.toArray.toList.take off ++ (bvs (bs.take m) ++ cur.toArray.toList.drop (off + m))).toArray t _ hg
    unfold Blk splice
    rw [hlen]
    exact this
end Go.Proofs.YtibcjbelcplpjaaDoor
/-
  Contract of the function that takes a text into a digest under way, layer 2 (sha). No statement of the seed is proved here.
-/
namespace Go.Proofs.YtibcjbelcplpjaaDoor
open Go.RowKit
set_option linter.unusedVariables false

def slen : Value → Nat
  | .slice _ n _ => n
  | _ => 0
/-- What taking a text leaves. -/
def TakeRet (p : Nat) (bs : List UInt8) (L : Nat) (w : World) (e : Ending) (w' : World) : Prop := e = .returned (.tuple #[]) ∧ WkL w' p 135 bs L ∧ Kept [p] w w'

set_option maxRecDepth 100000 in
set_option maxHeartbeats 4000000 in
theorem take_any (p : Nat) (bs t : List UInt8) (L : Nat) (A : Option Addr) (n c : Nat) (w : World) (hW : WkL w p 135 bs L) (hr : RdB w A n c t) (ho : 0 < n → Off A [p]) (hgl : Glob w) (hp : 1 < p ∧ 4 < p) (hL : L + n < 1099511627776) :
    Calls Tryd.prog 93 #[.pointer (some ⟨p, 0, none⟩), .slice A n c] w (TakeRet p (bs ++ t) (L + n) w) := by
  obtain ⟨blk0, hl0, hB0, hw0⟩ := hW
  have c73 := (hB0.cell 73).trans (wkc_len _ _ _ _ hl0)
  have f73 := hB0.frz 73
  have hB1 := hB0.set 73 (.int .u64 ((L : Int) + (n : Int)))
  rw [wkc_set_len _ _ _ _ _ hl0] at hB1
  have hK1 : Kept [p] w (w.setCell ⟨p, 73, none⟩ (.int .u64 ((L : Int) + (n : Int)))) := (Kept.refl [p] w).setCell (by simp) _
  have hr1 := hr.keptIf hK1 ho
  have hg1 := hgl.kept hK1 (by simp; omega) (by simp; omega)
  have H0 := Lib.hid hw0
  clear hw0 hB0
  go_enter Tryd.func93, Tryd.ntmps93
  go_wp2
  go_loopw [1] (fun v wr => ∃ (A' : Option Addr) (r c' : Nat) (dn ts : List UInt8), v = .slice A' r c' ∧ RdB wr A' r c' ts ∧ Hid (t = dn ++ ts) ∧ (0 < r → Off A' [p]) ∧ WkL wr p 135 (bs ++ dn) (L + n) ∧ Glob wr ∧ Kept [p] w wr) (fun v _ => slen v)
  case atStart => exact ⟨A, n, c, [], t, rfl, hr1, Lib.hid rfl, ho, ⟨blk0, hl0, by rw [List.append_nil]; exact hB1, by rw [List.append_nil]; exact H0.out⟩, hg1, hK1⟩
  case round =>
    clear c73 f73 hB1 hK1 hr1 hg1 H0 ho hr hgl
    obtain ⟨A', r, c', dn, ts, rfl, hr, Ht, ho, ⟨blk, hl, hB, hw⟩, hg, hK⟩ := hrel
    have Hl := Lib.hid hr.len
    have hcm := hr.cap
    have hcx := hr.most
    unfold maxLen at hcx
    by_cases hpos : 0 < r
    · have hlt : (bs ++ dn).length % 64 < 64 := Nat.mod_lt _ (by omega)
      have Hw := Lib.hid hw
      clear hw
      generalize hq : (bs ++ dn).length % 64 = h at *
      have Hq := Lib.hid hq
      clear hq
      obtain ⟨m, hm⟩ : ∃ m, m = min r (64 - h) := ⟨_, rfl⟩
      have Hm := Lib.hid hm
      have hm1 : m ≤ r := by omega
      have hm2 : h + m ≤ 64 := by omega
      have hm3 : 0 < m := by omega
      have c72 := (hB.cell 72).trans (wkc_held _ _ _ _ hl)
      have f72 := hB.frz 72
      have hcutA := run_cut_from (P := Tryd.prog) 108 5 64 p 8 .i64 h (h : Int) arr64b size1b rfl hlt
      obtain ⟨A2, hr2, ho2, hcutB⟩ := hr.cutFrom (P := Tryd.prog) 26 5 Tryd.underlying26 size1b m (m : Int) rfl hm1
      have hwl := wkc_length (run st0 (bs ++ dn)) blk h ((L + n : Nat) : Int) hl
      clear hm
      go_wp2
      go_still_tail 9, (by kernel_rfl)
      change wpList _ _ _ _ _ wr.drew
      have hBD := hB.drew
      have hrD := hr.drew
      have hr2D := hr2.drew
      have hgD : Glob wr.drew := hg
      have hKD := hK.drew
      clear c72 f72 hB hr hr2 hg hK
      generalize wr.drew = wd at *
      refine wpList_copy_blk rfl (.tmp 25) (.tmp 26) 26 rfl 5 Tryd.underlying26 size1b p (8 + h) (64 - h) (64 - h) A' r c' ts rfl rfl hrD hpos 135 _ hBD m Hm.out (by rw [hwl]; omega) ?_
      intro w2 hB2 hk2
      have hul : (ts.take m).length = m := by rw [List.length_take]; have := Hl.out; omega
      rw [wkc_splice _ _ _ _ _ _ hl (by omega)] at hB2
      have hl2 : (splice blk h (ts.take m)).length = 64 := by rw [splice_len _ _ _ (by omega)]; exact hl
      have hst := splice_take blk h (ts.take m) (by omega)
      rw [hul, Hw.out] at hst
      have Hst := Lib.hid hst
      have Hul := Lib.hid hul
      clear hst hul
      have hr3 := hr2D.keptIf hk2 (fun _ => ho2 _ (ho hpos))
      have hg3 := hgD.kept hk2 (by simp; omega) (by simp; omega)
      have hK3 : Kept [p] w w2 := hKD.trans hk2 (fun i hi => .inl hi)
      clear hr2D hgD hKD hBD hrD hk2 hwl
      generalize splice blk h (ts.take m) = blk2 at *
      have c72 := (hB2.cell 72).trans (wkc_held _ _ _ _ hl2)
      have f72 := hB2.frz 72
      have hB4 := hB2.set 72 (.int .i64 ((h : Int) + (m : Int)))
      rw [wkc_set_held _ _ _ _ _ hl2] at hB4
      have hk4 : Kept [p] w2 (w2.setCell ⟨p, 72, none⟩ (.int .i64 ((h : Int) + (m : Int)))) := (Kept.refl [p] w2).setCell (by simp) _
      have d72 := (hB4.cell 72).trans (wkc_held _ _ _ _ hl2)
      have hr4 := hr3.keptIf hk4 (fun _ => ho2 _ (ho hpos))
      have hg4 := hg3.kept hk4 (by simp; omega) (by simp; omega)
      have hK4 : Kept [p] w (w2.setCell ⟨p, 72, none⟩ (.int .i64 ((h : Int) + (m : Int)))) := hK3.trans hk4 (fun i hi => .inl hi)
      have Hlen : Hid ((bs ++ dn ++ ts.take m).length = (bs ++ dn).length + m) := by show _ = _; rw [List.length_append, Hul.out]
      clear hB2 hr3 hg3 hK3 hk4
      by_cases hful : h + m = 64
      · have he : ((h : Int) + (m : Int) == 64) = true := by simp; omega
        have Hfull : Hid (run st0 (bs ++ (dn ++ ts.take m)) = mixB (run st0 (bs ++ dn)) blk2 ∧ (bs ++ (dn ++ ts.take m)).length % 64 = 0 ∧ waits (bs ++ (dn ++ ts.take m)) = []) := by
          have h1 := Hul.out
          have h2 := Hq.out
          have h3 := Hst.out
          rw [hful, List.take_of_length_le (by omega)] at h3
          refine ⟨?_, ?_, ?_⟩
          · rw [← List.append_assoc, run_full _ _ _ (by omega), h3]; rfl
          · rw [← List.append_assoc, List.length_append]; omega
          · rw [← List.append_assoc]; exact waits_full _ _ (by omega)
        go_wp2_with fail
        refine (mix_any p _ blk2 _ _ _ hB4 hl2 hg4 hp).mono ?_
        rintro e w5 ⟨rfl, hB5, hk5⟩
        have hr5 := hr4.keptIf hk5 (fun _ => ho2 _ (ho hpos))
        have hg5 := hg4.kept hk5 (by simp; omega) (by simp; omega)
        have hK5 : Kept [p] w w5 := hK4.trans hk5 (fun i hi => .inl hi)
        clear hB4 hr4 hg4 hK4 hk5 c72 f72 d72
        have c72 := (hB5.cell 72).trans (wkc_held _ _ _ _ hl2)
        have f72 := hB5.frz 72
        have hB6 := hB5.set 72 (.int .i64 0)
        rw [wkc_set_held _ _ _ _ _ hl2] at hB6
        have hk6 : Kept [p] w5 (w5.setCell ⟨p, 72, none⟩ (.int .i64 0)) := (Kept.refl [p] w5).setCell (by simp) _
        have hr6 := hr5.keptIf hk6 (fun _ => ho2 _ (ho hpos))
        have hg6 := hg5.kept hk6 (by simp; omega) (by simp; omega)
        have hK6 : Kept [p] w (w5.setCell ⟨p, 72, none⟩ (.int .i64 0)) := hK5.trans hk6 (fun i hi => .inl hi)
        clear hB5 hr5 hg5 hK5 hk6
        go_wp2
        go_roundw
        case rel =>
          obtain ⟨e1, e2, e3⟩ := Hfull.out
          refine ⟨A2, r - m, c' - m, dn ++ ts.take m, ts.drop m, rfl, hr6, Lib.hid (by rw [Ht.out, List.append_assoc, List.take_append_drop]), fun _ => ho2 _ (ho hpos), ⟨blk2, hl2, ?_, ?_⟩, hg6, hK6⟩
          · rw [e1, e2]; exact hB6
          · rw [e2, e3]; rfl
        case measure => simp [slen]; omega
      · have he : ((h : Int) + (m : Int) == 64) = false := by simp; omega
        have Hmore : Hid (run st0 (bs ++ (dn ++ ts.take m)) = run st0 (bs ++ dn) ∧ (bs ++ (dn ++ ts.take m)).length % 64 = h + m ∧ waits (bs ++ (dn ++ ts.take m)) = waits (bs ++ dn) ++ ts.take m) := by
          have h1 := Hul.out
          have h2 := Hq.out
          refine ⟨?_, ?_, ?_⟩
          · rw [← List.append_assoc, run_more _ _ _ (by omega)]
          · rw [← List.append_assoc, List.length_append]; omega
          · rw [← List.append_assoc]; exact waits_more _ _ (by omega)
        go_wp2
        go_roundw
        case rel =>
          obtain ⟨e1, e2, e3⟩ := Hmore.out
          refine ⟨A2, r - m, c' - m, dn ++ ts.take m, ts.drop m, rfl, hr4, Lib.hid (by rw [Ht.out, List.append_assoc, List.take_append_drop]), fun _ => ho2 _ (ho hpos), ⟨blk2, hl2, ?_, ?_⟩, hg4, hK4⟩
          · rw [e1, e2]; exact hB4
          · rw [e2, e3]; exact Hst.out
        case measure => simp [slen]; omega
    · obtain rfl : r = 0 := by omega
      have hts : ts = [] := List.eq_nil_of_length_eq_zero Hl.out
      have hbt : bs ++ dn = bs ++ t := by rw [Ht.out, hts, List.append_nil]
      have Hbt := Lib.hid hbt
      clear hts hbt
      go_wp2
      go_end0
      exact ⟨rfl, by rw [← Hbt.out]; exact ⟨blk, hl, hB, hw⟩, hK⟩
end Go.Proofs.YtibcjbelcplpjaaDoor
/-
  Contracts of the functions that end a text and tell the digest, layer 2 (sha). No statement of the seed is proved here.
-/
namespace Go.Proofs.YtibcjbelcplpjaaDoor
open Go.RowKit
set_option linter.unusedVariables false

theorem splice_bvs (a : List UInt8) (off : Nat) (b : List UInt8) : splice (bvs a) off (bvs b) = bvs (splice a off b) := by
  simp [splice, bvs, List.map_take, List.map_drop]
theorem be_append : ∀ (m n x : Nat), be (m + n) x = be m (x / 256 ^ n) ++ be n x
  | m, 0, x => by simp [be]
  | m, n + 1, x => by
    rw [← Nat.add_assoc, be, be_append m n, be, Nat.div_div_eq_div_mul, ← Nat.pow_succ', List.append_assoc]
theorem ofNat_mod256 (x : Nat) : UInt8.ofNat (x % 256) = UInt8.ofNat x := by
  apply UInt8.toNat_inj.1; rw [ofNat_toNat, ofNat_toNat]; omega
theorem be_mod : ∀ (n x y : Nat), x % 256 ^ n = y % 256 ^ n → be n x = be n y
  | 0, _, _, _ => rfl
  | n + 1, x, y, h => by
    have hp : 0 < 256 ^ n := Nat.pow_pos (by omega)
    rw [Nat.pow_succ] at h
    have h1 : x / 256 % 256 ^ n = y / 256 % 256 ^ n := by
      have a1 := Nat.mod_mul_left_div_self x 256 (256 ^ n)
      have a2 := Nat.mod_mul_left_div_self y 256 (256 ^ n)
      rw [← a1, ← a2, h]
    have h2 : x % 256 = y % 256 := by
      have a1 := Nat.mod_mul_left_mod x (256 ^ n) 256
      have a2 := Nat.mod_mul_left_mod y (256 ^ n) 256
      rw [← a1, ← a2, h]
    rw [be, be, be_mod n _ _ h1, ← ofNat_mod256 x, ← ofNat_mod256 y, h2]
theorem be4_ofNat (x : Nat) : be 4 (BitVec.ofNat 32 x).toNat = be 4 x := by
  apply be_mod
  rw [BitVec.toNat_ofNat]
  omega
theorem be8_two (x : Nat) : be 8 x = be 4 (BitVec.ofNat 32 (x / 4294967296)).toNat ++ be 4 (BitVec.ofNat 32 x).toNat := by
  rw [be4_ofNat, be4_ofNat]
  exact be_append 4 4 x

/-- What stands behind a text, as it is laid into a row of noughts. -/
def behindB (L : Nat) : List UInt8 := splice (splice (128 :: List.replicate 71 0) (fillN L) (be 4 (BitVec.ofNat 32 (8 * L / 4294967296)).toNat)) (fillN L + 4) (be 4 (BitVec.ofNat 32 (8 * L)).toNat)
theorem behindB_take (L : Nat) : (behindB L).take (fillN L + 8) = tail8 L := by
  have hf := fillN_pos L
  have l1 := be_length 4 (BitVec.ofNat 32 (8 * L / 4294967296)).toNat
  have l2 := be_length 4 (BitVec.ofNat 32 (8 * L)).toNat
  have e1 := splice_take (128 :: List.replicate 71 (0 : UInt8)) (fillN L) (be 4 (BitVec.ofNat 32 (8 * L / 4294967296)).toNat) (by rw [l1]; simp; omega)
  have e2 := splice_take (splice (128 :: List.replicate 71 (0 : UInt8)) (fillN L) (be 4 (BitVec.ofNat 32 (8 * L / 4294967296)).toNat)) (fillN L + 4) (be 4 (BitVec.ofNat 32 (8 * L)).toNat) (by rw [length_splice _ _ _ (by rw [l1]; simp; omega), l2]; simp; omega)
  rw [l2, show fillN L + 4 + 4 = fillN L + 8 by omega] at e2
  rw [l1] at e1
  unfold behindB
  rw [e2, e1]
  unfold tail8
  rw [be8_two, List.append_assoc]
  congr 1
  obtain ⟨f, hf2⟩ : ∃ f, fillN L = f + 1 := ⟨fillN L - 1, by omega⟩
  rw [hf2, List.take_succ_cons, Nat.add_sub_cancel, List.take_replicate]
  congr 2; omega

theorem putWord_at (g off n c : Nat) (t : TypeId) (cs : List Value) (x : W32) (z : Int) (w : World) (hz : z = wv x) (hb : Blk w g t cs) (hn : 4 ≤ n) (hc : n ≤ c) (ho : off + 4 ≤ cs.length) :
    Calls Tryd.prog 101 #[.slice (some ⟨g, off, none⟩) n c, .int .u32 z] w (SetRet g t (splice cs off (bvs (be 4 x.toNat))) w) := by
  subst hz; exact putWord_any g off n c t cs x w hb hn hc ho

theorem zero72 : (Tryd.prog.info? 140).bind (·.zero) = some (.agg (zb 72).toArray) := by kernel_rfl
theorem arr72b : Tryd.prog.underlying 140 = some (.array 72 5) := by kernel_rfl

set_option maxRecDepth 100000 in
set_option maxHeartbeats 4000000 in
theorem wend_any (p : Nat) (bs : List UInt8) (L : Nat) (w : World) (hW : WkL w p 135 bs L) (hgl : Glob w) (hp : 1 < p ∧ 4 < p) (hL : L < 1099511620000) :
    Calls Tryd.prog 94 #[.pointer (some ⟨p, 0, none⟩)] w (TakeRet p (bs ++ tail8 L) (L + (fillN L + 8)) w) := by
  have hplt := hW.lt
  have hf := fillN_pos L
  have hfz : 64 - ((L : Int) + 8) % 64 = (fillN L : Int) := by unfold fillN; omega
  go_enter Tryd.func94, Tryd.ntmps94
  go_wp2_with (with_reducible change wpList _ _ _ (⟨_, Op.alloc _, _, _, _, _⟩ :: _) _ _; refine wpList_alloc_blk rfl 140 rfl _ zero72 ?_)
  intro w1 hG1 hk1 hs1
  obtain ⟨blk, hl, hB, hw⟩ := hW.kept0 hk1
  have c73 := (hB.cell 73).trans (wkc_len _ _ _ _ hl)
  have c0 : w1.cell? ⟨w.heap.size, 0, none⟩ = some (.int .u8 0) := hG1.cell 0
  have f0 := hG1.frz 0
  have hG2 : Blk (w1.setCell ⟨w.heap.size, 0, none⟩ (.int .u8 128)) w.heap.size 140 (bvs (128 :: List.replicate 71 0)) := hG1.set 0 _
  have hk2 : Kept [] w (w1.setCell ⟨w.heap.size, 0, none⟩ (.int .u8 128)) := hk1.setCell (by simp) _
  have hcut1 := run_cut_from (P := Tryd.prog) 140 5 72 w.heap.size 0 .u64 (fillN L) (fillN L : Int) arr72b size1b rfl (by omega)
  have hcut2 := run_cut_from (P := Tryd.prog) 140 5 72 w.heap.size 0 .u64 (fillN L + 4) ((fillN L : Int) + 4) arr72b size1b (by omega) (by omega)
  have hcut3 := run_cut_to (P := Tryd.prog) 140 5 72 w.heap.size 0 .u64 (fillN L + 8) ((fillN L : Int) + 8) arr72b size1b (by omega) (by omega) (by omega)
  have hl1 : (splice (128 :: List.replicate 71 (0 : UInt8)) (fillN L) (be 4 (BitVec.ofNat 32 (8 * L / 4294967296)).toNat)).length = 72 := by rw [length_splice _ _ _ (by rw [be_length]; simp; omega)]; simp
  have hl2 : (behindB L).length = 72 := by unfold behindB; rw [length_splice _ _ _ (by rw [hl1, be_length]; omega), hl1]
  have Hl1 := Lib.hid hl1
  have Hl2 := Lib.hid hl2
  clear hl1 hl2
  go_wp2_with fail
  refine (putWord_at w.heap.size (fillN L) _ _ 140 _ (BitVec.ofNat 32 (8 * L / 4294967296)) _ _ (by rw [wv_ofNat _ (by omega)]; omega) hG2 (by omega) (Nat.le_refl _) (by rw [bvs_length]; simp; omega)).mono ?_
  rintro e w3 ⟨rfl, hG3, hk3⟩
  rw [splice_bvs] at hG3
  go_wp2_with fail
  refine (putWord_at w.heap.size (fillN L + 4) _ _ 140 _ (BitVec.ofNat 32 (8 * L)) _ _ (by rw [wv_eq, BitVec.toNat_ofNat]; omega) hG3 (by omega) (Nat.le_refl _) (by rw [bvs_length, Hl1.out]; omega)).mono ?_
  rintro e w4 ⟨rfl, hG4, hk4⟩
  rw [splice_bvs] at hG4
  have hK4 : Kept [] w w4 := (hk2.trans hk3 (by simp)).trans hk4 (by simp)
  have hW4 := hW.kept0 hK4
  have hgl4 := hgl.kept0 hK4
  have hr4 : RdB w4 (some ⟨w.heap.size, 0, none⟩) (fillN L + 8) 72 (tail8 L) := by
    refine Blk.rdb hG4 0 _ _ _ ?_ (tail8_length L) (by omega) (by simp [maxLen])
    rw [List.drop_zero, ← behindB_take L]
    simp [bvs, List.map_take, behindB]
  clear hG1 hk1 hB hw c73 c0 f0 hG2 hk2 hG3 hk3 hG4 hk4
  go_wp2_with fail
  refine (take_any p bs (tail8 L) L _ _ _ _ hW4 hr4 (fun _ a ha => by cases ha; simp; omega) hgl4 hp (by omega)).mono ?_
  rintro e w5 ⟨rfl, hW5, hk5⟩
  go_wp2
  go_end0
  exact ⟨rfl, hW5, (hK4.mono (by simp)).trans hk5 (fun i hi => .inl hi)⟩
end Go.Proofs.YtibcjbelcplpjaaDoor
/-
  Contract of the function that tells the digest, layer 2 (sha). No statement of the seed is proved here.
-/
namespace Go.Proofs.YtibcjbelcplpjaaDoor
open Go.RowKit
set_option linter.unusedVariables false

/-- The first n words as bytes, noughts behind them. -/
def kb (l : List W32) (n : Nat) : List UInt8 := ((l.take n).flatMap fun x => be 4 x.toNat) ++ List.replicate (32 - 4 * n) 0
theorem flat_len (l : List W32) : (l.flatMap fun x => be 4 x.toNat).length = 4 * l.length := by
  induction l with
  | nil => rfl
  | cons x l ih => rw [List.flatMap_cons, List.length_append, be_length, ih, List.length_cons]; omega
theorem kb_length (l : List W32) (n : Nat) (hl : l.length = 8) (h : n ≤ 8) : (kb l n).length = 32 := by
  rw [kb, List.length_append, flat_len, List.length_replicate, List.length_take]; omega
theorem kb_step (l : List W32) (n : Nat) (hl : l.length = 8) (h : n < 8) : splice (kb l n) (4 * n) (be 4 (l.getD n 0).toNat) = kb l (n + 1) := by
  have e1 : ((l.take n).flatMap fun x => be 4 x.toNat).length = 4 * n := by rw [flat_len, List.length_take]; omega
  have ht := take_step l n (l.getD n 0) (by rw [List.getElem?_eq_getElem (by omega), List.getD_eq_getElem?_getD, List.getElem?_eq_getElem (by omega)]; rfl)
  unfold splice kb
  rw [ht, List.flatMap_append, List.take_append_of_le_length (by omega), List.take_of_length_le (by omega), be_length, List.append_assoc]
  congr 1
  rw [List.flatMap_cons, List.flatMap_nil, List.append_nil]
  congr 1
  rw [List.drop_append, List.drop_of_length_le (by omega), List.nil_append, e1, List.drop_replicate]
  congr 1; omega
theorem kb_all (s : St) : kb s.l 8 = stBytes s := by
  unfold kb stBytes
  rw [List.take_of_length_le (by show 8 ≤ 8; omega)]
  simp

set_option maxRecDepth 100000 in
set_option maxHeartbeats 4000000 in
theorem wkey_any (p : Nat) (s : St) (blk : List UInt8) (held len : Int) (w : World) (hb : Blk w p 135 (wkc s blk held len)) :
    Calls Tryd.prog 95 #[.pointer (some ⟨p, 0, none⟩)] w (KeyRet (stBytes s) w) := by
  have hplt := hb.lt
  go_enter Tryd.func95, Tryd.ntmps95
  go_wp2_with (with_reducible change wpList _ _ _ (⟨_, Op.alloc _, _, _, _, _⟩ :: _) _ _; refine wpList_alloc_blk rfl 23 rfl _ zero32 ?_)
  intro w1 hR1 hk1 hs1
  go_wp2_with (with_reducible change wpList _ _ _ (⟨_, Op.alloc _, _, _, _, _⟩ :: _) _ _; refine wpList_alloc_blk rfl 23 rfl _ zero32 ?_)
  intro w2 hG2 hk2 hs2
  have hR2 := hR1.kept0 hk2
  have hK2 := hk1.andThen hk2
  have hb2 := hb.kept0 hK2
  clear hR1 hk1 hk2 hs2 hb
  go_wp2_with (with_reducible change wpList _ _ _ (⟨_, Op.load _ _, _, _, _, _⟩ :: _) _ _; refine wpList_load_part rfl 133 (.tmp 8) rfl p 0 rfl 135 _ (wvs s.l) _ hb2 (wkc_head s blk held len) Tryd.underlying133 rfl (size8w s) ?_)
  clear hb2
  go_loopw [10] (fun i wr => ∃ k : Nat, k ≤ 8 ∧ i = .int .i64 k ∧ Blk wr (w.heap.size + 1) 23 (bvs (kb s.l k)) ∧ Blk wr w.heap.size 23 (zb 32) ∧ Kept [] w wr) (fun i _ => 8 - (intOf i).toNat)
  case atStart => exact ⟨0, by omega, rfl, hG2, hR2, hK2⟩
  case round =>
    obtain ⟨k, hk, rfl, hG, hR, hK⟩ := hrel
    by_cases hlt : k < 8
    · have hcut := run_cut_from (P := Tryd.prog) 23 5 32 (w.heap.size + 1) 0 .i64 (4 * k) (4 * (k : Int)) arr32b size1b (by omega) (by omega)
      have hidx := fun W => run_index_agg (P := Tryd.prog) 133 114 8 (wvs s.l).toArray k (.int .u32 (wv (s.l.getD k 0))) W Tryd.underlying133 (by kernel_rfl) _ Tryd.underlying114 rfl hlt (by simpa using wvs_get s.l k hlt)
      have hkl := kb_length s.l k rfl hk
      have hst := kb_step s.l k rfl hlt
      have Hkl := Lib.hid hkl
      have Hst := Lib.hid hst
      clear hkl hst
      go_wp2_with fail
      refine (putWord_any (w.heap.size + 1) (4 * k) _ _ 23 _ (s.l.getD k 0) _ hG (by omega) (Nat.le_refl _) (by rw [bvs_length, Hkl.out]; omega)).mono ?_
      rintro e w3 ⟨rfl, hG3, hk3⟩
      rw [splice_bvs, Hst.out] at hG3
      have hR3 := hR.kept hk3 (by simp)
      have hK3 : Kept [] w w3 := hK.trans hk3 (by simp)
      clear hG hR hK hk3
      go_wp2
      go_roundw
      case rel => exact ⟨k + 1, by omega, by go_num, hG3, hR3, hK3⟩
      case measure => simp [intOf]; omega
    · obtain rfl : k = 8 := by omega
      rw [kb_all] at hG
      have hwl : (bvs (stBytes s)).length = 32 := by rw [bvs_length]; exact stBytes_length s
      have hone := bvs_one (stBytes s)
      obtain ⟨X, hX⟩ : ∃ X, X = bvs (stBytes s) := ⟨_, rfl⟩
      rw [← hX] at hG hwl hone
      have hi : (Tryd.prog.info? 23).map (·.size) = some X.length := by rw [hwl]; exact size32
      have hz : (zb 32).length = X.length := by rw [hwl]; simp [zb, bvs]
      have HX := Lib.hid hX
      have H1 := Lib.hid hone
      have H2 := Lib.hid hi
      have H3 := Lib.hid hz
      clear hX hwl hone hi hz
      go_wp2_with (first
        | (with_reducible change wpList _ _ _ (⟨_, Op.load _ _, _, _, _, _⟩ :: _) _ _; refine wpList_load_blk rfl 23 (.tmp 3) rfl (w.heap.size + 1) rfl 23 X _ hG Tryd.underlying23 rfl H2.out ?_)
        | (with_reducible change wpList _ _ _ (⟨_, Op.store _ _ _, _, _, _, _⟩ :: _) _ _; refine wpList_store_blk rfl 23 (.tmp 2) (.tmp 20) rfl w.heap.size X rfl rfl 23 (zb 32) hR H2.out H3.out H1.out ?_))
      intro w5 hR5 hk5 hs5
      go_wp2
      refine bodyPost_ret (results_blk rfl _ w.heap.size 23 _ _ rfl hR5 Tryd.underlying23 rfl H2.out) rfl ?_
      exact ⟨by rw [HX.out], hK.trans hk5 (by simp)⟩
end Go.Proofs.YtibcjbelcplpjaaDoor
/-
  Helper words on memory, going on: slices of texts ('RdL'). No statement of the seed is proved here.
-/
namespace Go.Proofs.YtibcjbelcplpjaaDoor
open Go.RowKit
set_option linter.unusedVariables false

theorem RdB.keptNew {w w' : World} {A : Option Addr} {n c : Nat} {bs : List UInt8} {S : List Nat} (h : RdB w A n c bs) (hk : Kept S w w') (hS : ∀ k, k ∈ S → w.heap.size ≤ k) : RdB w' A n c bs :=
  h.keep fun b _ _ hb => hk.block b hb (fun hm => by have := hS b hm; omega)
/-- A slice of byte slices reads as these texts. -/
structure RdL (w : World) (A : Option Addr) (n c : Nat) (ls : List (List UInt8)) : Prop where
  len : ls.length = n
  cap : n ≤ c
  most : c ≤ maxLen
  cells : 0 < n → ∃ b off, A = some ⟨b, off, none⟩ ∧ b < w.heap.size ∧ ∀ j, (h : j < ls.length) → ∃ Aj nj cj, w.cell? ⟨b, off + j, none⟩ = some (.slice Aj nj cj) ∧ RdB w Aj nj cj ls[j]
theorem RdL.keptNew {w w' : World} {A : Option Addr} {n c : Nat} {ls : List (List UInt8)} {S : List Nat} (h : RdL w A n c ls) (hk : Kept S w w') (hS : ∀ k, k ∈ S → w.heap.size ≤ k) : RdL w' A n c ls :=
  ⟨h.len, h.cap, h.most, fun hn => by
    obtain ⟨b, off, e, hb, hc⟩ := h.cells hn
    refine ⟨b, off, e, Nat.lt_of_lt_of_le hb hk.size, fun j hj => ?_⟩
    obtain ⟨Aj, nj, cj, h1, h2⟩ := hc j hj
    exact ⟨Aj, nj, cj, (hk.cell (p := ⟨b, off + j, none⟩) hb (fun hm => by have := hS b hm; omega)).trans h1, h2.keptNew hk hS⟩⟩
theorem RdL.kept0 {w w' : World} {A : Option Addr} {n c : Nat} {ls : List (List UInt8)} (h : RdL w A n c ls) (hk : Kept [] w w') : RdL w' A n c ls := h.keptNew hk (by simp)
theorem RdL.at_ {w : World} {A : Option Addr} {n c : Nat} {ls : List (List UInt8)} (h : RdL w A n c ls) {k : Nat} (hk : k < n) : ∃ b off Ak nk ck l, A = some ⟨b, off, none⟩ ∧ b < w.heap.size ∧ w.cell? ⟨b, off + k, none⟩ = some (.slice Ak nk ck) ∧ ls[k]? = some l ∧ RdB w Ak nk ck l := by
  obtain ⟨b, off, e, hb, hc⟩ := h.cells (by omega)
  have hl := h.len
  obtain ⟨Ak, nk, ck, h1, h2⟩ := hc k (by omega)
  exact ⟨b, off, Ak, nk, ck, _, e, hb, h1, List.getElem?_eq_getElem (by omega), h2⟩
theorem RdL.nil (w : World) : RdL w none 0 0 [] := ⟨rfl, Nat.le_refl _, by simp [maxLen], fun h => absurd h (by omega)⟩
theorem RdL.one {w : World} {A : Option Addr} {n c : Nat} {bs : List UInt8} (e : TypeId) (h : RdB w A n c bs) : RdL (w.alloc (.cells #[.slice A n c] e)) (some ⟨w.heap.size, 0, none⟩) 1 1 [bs] := by
  refine ⟨rfl, Nat.le_refl _, by simp [maxLen], fun _ => ⟨w.heap.size, 0, rfl, by simp, fun j hj => ?_⟩⟩
  have hj0 : j = 0 := by simpa using hj
  subst hj0
  refine ⟨A, n, c, ?_, h.alloc _⟩
  rw [cell_of_row _ _ _ _ _ _ (heap_alloc_new w _)]
  rfl
theorem RdL.two {w : World} {A1 A2 : Option Addr} {n1 n2 c1 c2 : Nat} {b1 b2 : List UInt8} (e : TypeId) (h1 : RdB w A1 n1 c1 b1) (h2 : RdB w A2 n2 c2 b2) :
    RdL (w.alloc (.cells #[.slice A1 n1 c1, .slice A2 n2 c2] e)) (some ⟨w.heap.size, 0, none⟩) 2 2 [b1, b2] := by
  refine ⟨rfl, Nat.le_refl _, by simp [maxLen], fun _ => ⟨w.heap.size, 0, rfl, by simp, fun j hj => ?_⟩⟩
  have hj3 : j = 0 ∨ j = 1 := by simp at hj; omega
  rcases hj3 with rfl | rfl
  · exact ⟨A1, n1, c1, by rw [cell_of_row _ _ _ _ _ _ (heap_alloc_new w _)]; rfl, h1.alloc _⟩
  · exact ⟨A2, n2, c2, by rw [cell_of_row _ _ _ _ _ _ (heap_alloc_new w _)]; rfl, h2.alloc _⟩
end Go.Proofs.YtibcjbelcplpjaaDoor
/-
  Contracts of the digests of layer 2 (sha). No statement of the seed is proved here.
-/
namespace Go.Proofs.YtibcjbelcplpjaaDoor
open Go.RowKit
set_option linter.unusedVariables false

theorem built47 : Tryd.prog.built 135 [(0, .agg (wvs st0.l).toArray)] = some (wkc st0 (List.replicate 64 0) 0 0).toArray := by kernel_rfl
def zw : List Value := List.replicate 8 (.int .u32 0) ++ (List.replicate 64 (.int .u8 0) ++ [.int .i64 0, .int .u64 0])
theorem zero74 : (Tryd.prog.info? 135).bind (·.zero) = some (.agg zw.toArray) := by kernel_rfl
theorem size74 : (Tryd.prog.info? 135).map (·.size) = some 74 := by kernel_rfl
theorem wkc_one (s : St) (blk : List UInt8) (held len : Int) : ∀ u ∈ wkc s blk held len, u.oneCell' = true := by
  intro u hu
  unfold wkc at hu
  rw [List.mem_append, List.mem_append] at hu
  rcases hu with hu | hu | hu
  · exact wvs_one _ u hu
  · exact bvs_one _ u hu
  · simp at hu
    rcases hu with rfl | rfl <;> rfl

set_option maxRecDepth 100000 in
set_option maxHeartbeats 4000000 in
theorem digest_any (A : Option Addr) (n c : Nat) (ls : List (List UInt8)) (w : World) (hr : RdL w A n c ls) (hgl : Glob w) (hL : ls.flatten.length < 1099511600000) :
    Calls Tryd.prog 85 #[.slice A n c] w (KeyRet (shaSum ls.flatten) w) := by
  have hgl2 := hgl.lt
  have hm := hr.most
  have hcc := hr.cap
  unfold maxLen at hm
  obtain ⟨X, hX⟩ : ∃ X, X = wkc st0 (List.replicate 64 0) 0 0 := ⟨_, rfl⟩
  have hXl : X.length = 74 := by rw [hX]; exact wkc_length _ _ _ _ (by simp)
  have hX1 : ∀ u ∈ X, u.oneCell' = true := by rw [hX]; exact wkc_one _ _ _ _
  have hXb : Tryd.prog.built 135 [(0, .agg (wvs st0.l).toArray)] = some X.toArray := by rw [hX]; exact built47
  have hXs : (Tryd.prog.info? 135).map (·.size) = some X.length := by rw [hXl]; exact size74
  have hXz : zw.length = X.length := by rw [hXl]; rfl
  have HX := Lib.hid hX
  have HX1 := Lib.hid hX1
  have HXb := Lib.hid hXb
  have HXs := Lib.hid hXs
  have HXz := Lib.hid hXz
  clear hX hXl hX1 hXb hXs hXz
  go_enter Tryd.func85, Tryd.ntmps85
  go_wp2_with (with_reducible change wpList _ _ _ (⟨_, Op.alloc _, _, _, _, _⟩ :: _) _ _; refine wpList_alloc_blk rfl 23 rfl _ zero32 ?_)
  intro w1 hR1 hk1 hs1
  have hgl1 := hgl.kept0 hk1
  have hrange : w1.rangeAt 1 0 (wvs st0.l) := fun j v hv => by
    have hj : j < 8 := (List.getElem?_eq_some_iff.1 hv).1
    rw [Nat.zero_add, hgl1.1 j hj, ← hv, wvs_get st0.l j hj]
  have Hr := Lib.hid hrange
  clear hrange
  go_wp2_with (first
    | (with_reducible change wpList _ _ _ (⟨_, Op.load _ _, _, _, _, _⟩ :: _) _ _; refine wpList_load_mid rfl 133 (.global 1) rfl 1 0 rfl (wvs st0.l) _ Hr.out Tryd.underlying133 rfl (size8w st0) ?_)
    | (with_reducible change wpList _ _ _ (⟨_, Op.build _ _, _, _, _, _⟩ :: _) _ _; refine wpList_buildTo rfl 135 _ rfl _ rfl X.toArray (by simpa [Act.eval, Act.put] using HXb.out) ?_)
    | (with_reducible change wpList _ _ _ (⟨_, Op.alloc _, _, _, _, _⟩ :: _) _ _; refine wpList_alloc_blk rfl 135 rfl _ zero74 ?_))
  intro w2 hG2 hk2 hs2
  go_wp2_with (with_reducible change wpList _ _ _ (⟨_, Op.store _ _ _, _, _, _, _⟩ :: _) _ _; refine wpList_store_blk rfl 135 (.tmp 3) (.tmp 7) rfl (w.heap.size + 1) X rfl rfl 135 zw hG2 HXs.out HXz.out HX1.out ?_)
  intro w3 hG3 hk3 hs3
  have hK3 : Kept [] w w3 := (hk1.andThen hk2).trans hk3 (by simp)
  have hR3 := (hR1.kept0 hk2).kept hk3 (by simp)
  have hW3 : WkL w3 (w.heap.size + 1) 135 [] 0 := ⟨List.replicate 64 0, by simp, by rw [HX.out] at hG3; exact hG3, rfl⟩
  have hgl3 := hgl.kept0 hK3
  have hlen := hr.len
  clear hR1 hk1 hs1 hG2 hk2 hs2 hk3 hs3 hG3 Hr hgl1 hgl
  go_wp2
  go_loopw [10] (fun i wr => ∃ k : Nat, k ≤ n ∧ i = .int .i64 k ∧ WkL wr (w.heap.size + 1) 135 (ls.take k).flatten (ls.take k).flatten.length ∧ Glob wr ∧ Kept [] w wr ∧ Blk wr w.heap.size 23 (zb 32)) (fun i _ => n - (intOf i).toNat)
  case atStart => exact ⟨0, by omega, rfl, hW3, hgl3, hK3, hR3⟩
  case round =>
    clear hW3 hgl3 hK3 hR3
    obtain ⟨k, hk, rfl, hW, hgl, hK, hR⟩ := hrel
    by_cases hlt : k < n
    · obtain ⟨b, off, rfl, hb, hcs⟩ := hr.cells (by omega)
      have hkl : k < ls.length := by omega
      obtain ⟨Aj, nj, cj, c0, hrj0⟩ := hcs k hkl
      have c1 := (hK.cell (p := ⟨b, off + k, none⟩) hb (by simp)).trans c0
      have hrj := hrj0.kept0 hK
      have hts : (ls.take (k + 1)).flatten = (ls.take k).flatten ++ ls[k] := by
        rw [take_step ls k ls[k] (List.getElem?_eq_getElem hkl), List.flatten_append]; simp
      have hbound : (ls.take k).flatten.length + nj < 1099511627776 := by
        have e1 := hrj.len
        have e2 : ls.flatten = (ls.take (k + 1)).flatten ++ (ls.drop (k + 1)).flatten := by rw [← List.flatten_append, List.take_append_drop]
        have e3 := congrArg List.length e2
        rw [hts, List.length_append, List.length_append] at e3
        omega
      have hoff : 0 < nj → Off Aj [w.heap.size + 1] := fun hp a ha hm => by
        obtain ⟨b2, o2, e2, hb2, _⟩ := hrj0.at_ hp
        rw [ha] at e2
        injection e2 with e2
        have := List.mem_singleton.1 hm
        rw [e2] at this
        simp at this
        omega
      have Hts := Lib.hid hts
      have Hlj := Lib.hid hrj.len
      clear hcs hts c0 hrj0
      generalize ls[k] = tk at *
      go_wp2_with fail
      refine (take_any (w.heap.size + 1) _ tk _ Aj nj cj _ hW hrj hoff hgl (by omega) hbound).mono ?_
      rintro e w4 ⟨rfl, hW4, hk4⟩
      have hgl4 := hgl.kept hk4 (fun hm => by have := List.mem_singleton.1 hm; omega) (fun hm => by have := List.mem_singleton.1 hm; omega)
      have hK4 : Kept [] w w4 := hK.trans hk4 (by simp)
      have hR4 := hR.kept hk4 (by simp)
      clear hW hgl hK hR hk4
      go_wp2
      go_roundw
      case rel => exact ⟨k + 1, by omega, by go_num, by rw [Hts.out, List.length_append, Hlj.out]; exact hW4, hgl4, hK4, hR4⟩
      case measure => simp [intOf]; omega
    · obtain rfl : k = n := by omega
      rw [List.take_of_length_le (by omega)] at hW
      go_wp2_with fail
      refine (wend_any (w.heap.size + 1) _ _ _ hW hgl (by omega) (by omega)).mono ?_
      rintro e w4 ⟨rfl, hW4, hk4⟩
      have hK4 : Kept [] w w4 := hK.trans hk4 (by simp)
      have hR4 := hR.kept hk4 (by simp)
      obtain ⟨blk, hl, hB, hw⟩ := hW4
      go_wp2_with fail
      refine (wkey_any (w.heap.size + 1) _ blk _ _ _ hB).mono ?_
      rintro e w5 ⟨rfl, hk5⟩
      have hsum : stBytes (run st0 (ls.flatten ++ tail8 ls.flatten.length)) = shaSum ls.flatten := by rw [shaSum_eq]; rfl
      rw [hsum]
      have hK5 := hK4.andThen hk5
      have hR5 := hR4.kept0 hk5
      have hi : (Tryd.prog.info? 23).map (·.size) = some (bvs (shaSum ls.flatten)).length := by rw [bvs_length, shaSum_length]; exact size32
      have hz : (zb 32).length = (bvs (shaSum ls.flatten)).length := by rw [bvs_length, shaSum_length]; simp [zb, bvs]
      have H1 := Lib.hid hi
      have H2 := Lib.hid hz
      clear hi hz hsum hW hgl hK hR hk4 hK4 hR4 hl hB hw hk5
      go_wp2_with (with_reducible change wpList _ _ _ (⟨_, Op.store _ _ _, _, _, _, _⟩ :: _) _ _; refine wpList_store_blk rfl 23 (.tmp 2) (.tmp 18) rfl w.heap.size (bvs (shaSum ls.flatten)) rfl rfl 23 (zb 32) hR5 H1.out H2.out (bvs_one _) ?_)
      intro w6 hR6 hk6 hs6
      go_wp2
      refine bodyPost_ret (results_blk rfl _ w.heap.size 23 _ _ rfl hR6 Tryd.underlying23 rfl H1.out) rfl ?_
      exact ⟨rfl, hK5.trans hk6 (by simp)⟩
end Go.Proofs.YtibcjbelcplpjaaDoor
/-
  Contract of Sum, layer 2 (sha). No statement of the seed is proved here.
-/
namespace Go.Proofs.YtibcjbelcplpjaaDoor
open Go.RowKit
set_option linter.unusedVariables false

theorem key_size (l : List UInt8) : (Tryd.prog.info? 23).map (·.size) = some (bvs (shaSum l)).length := by rw [bvs_length, shaSum_length]; exact size32
theorem key_zb (l : List UInt8) : (zb 32).length = (bvs (shaSum l)).length := by rw [bvs_length, shaSum_length]; simp [zb, bvs]

theorem sum_any (A : Option Addr) (n c : Nat) (bs : List UInt8) (w : World) (hr : RdB w A n c bs) (hgl : Glob w) (hL : n < 1099511600000) :
    Calls Tryd.prog 84 #[.slice A n c] w (KeyRet (shaSum bs) w) := by
  have hl := hr.len
  have hfl : [bs].flatten = bs := by simp
  go_enter Tryd.func84, Tryd.ntmps84
  go_wp2_with (with_reducible change wpList _ _ _ (⟨_, Op.alloc _, _, _, _, _⟩ :: _) _ _; refine wpList_alloc_blk rfl 23 rfl _ zero32 ?_)
  intro w1 hR1 hk1 hs1
  have hr1 := RdL.one 26 (hr.kept0 hk1)
  go_wp2_with fail
  have ha : Kept [] w1 (w1.alloc (.cells #[.slice A n c] 26)) := (Kept.refl [] w1).alloc _
  refine (digest_any _ 1 1 [bs] _ (by rw [← hs1]; exact hr1) ((hgl.kept0 hk1).kept0 ha) (by rw [hfl]; omega)).mono ?_
  rw [hfl]
  rintro e w2 ⟨rfl, hk2⟩
  have hR2 := (hR1.kept0 ha).kept0 hk2
  go_wp2_with (with_reducible change wpList _ _ _ (⟨_, Op.store _ _ _, _, _, _, _⟩ :: _) _ _; refine wpList_store_blk rfl 23 (.tmp 2) (.tmp 5) rfl w.heap.size (bvs (shaSum bs)) rfl rfl 23 (zb 32) hR2 (key_size _) (key_zb _) (bvs_one _) ?_)
  intro w6 hR6 hk6 hs6
  go_wp2
  refine bodyPost_ret (results_blk rfl _ w.heap.size 23 _ _ rfl hR6 Tryd.underlying23 rfl (key_size _)) rfl ?_
  exact ⟨rfl, ((hk1.andThen ha).andThen hk2).trans hk6 (by simp)⟩
end Go.Proofs.YtibcjbelcplpjaaDoor
/-
  Lists of texts: cells and what they read as; how they come in. No statement of the seed is proved here.
-/
namespace Go.Proofs.YtibcjbelcplpjaaDoor
open Go.ChangeShapes Go.WideShapes Go.ChangeAt Go.RowKit
set_option linter.unusedVariables false

/-- A cell that holds a text. -/
def TxtV (w : World) (v : Value) (l : List UInt8) : Prop := ∃ A n c, v = .slice A n c ∧ RdB w A n c l
/-- Cells that hold texts. -/
def TxtVs (w : World) (vs : List Value) (ls : List (List UInt8)) : Prop := vs.length = ls.length ∧ ∀ (j : Nat) (v : Value) (l : List UInt8), vs[j]? = some v → ls[j]? = some l → TxtV w v l
section
variable {w w' : World} {A : Option Addr} {n c : Nat} {vs us : List Value} {ls ms : List (List UInt8)} {S : List Nat}
theorem TxtVs.keptNew (h : TxtVs w vs ls) (hk : Kept S w w') (hS : ∀ k, k ∈ S → w.heap.size ≤ k) : TxtVs w' vs ls :=
  ⟨h.1, fun j v l hv hl => by
    obtain ⟨A, n, c, e, hr⟩ := h.2 j v l hv hl
    exact ⟨A, n, c, e, hr.keptNew hk hS⟩⟩
theorem TxtVs.kept0 (h : TxtVs w vs ls) (hk : Kept [] w w') : TxtVs w' vs ls := h.keptNew hk (by simp)
theorem TxtVs.append (h : TxtVs w vs ls) (k : TxtVs w us ms) : TxtVs w (vs ++ us) (ls ++ ms) :=
  ⟨by rw [List.length_append, List.length_append, h.1, k.1], fun j v l hv hl => by
    rw [List.getElem?_append] at hv hl
    have := h.1
    split at hv
    · rw [if_pos (by omega)] at hl
      exact h.2 j v l hv hl
    · rw [if_neg (by omega), ← this] at hl
      exact k.2 _ v l hv hl⟩
theorem TxtVs.take (h : TxtVs w vs ls) (k : Nat) : TxtVs w (vs.take k) (ls.take k) :=
  ⟨by rw [List.length_take, List.length_take, h.1], fun j v l hv hl => by
    rw [List.getElem?_take] at hv hl
    split at hv
    · rename_i hj
      rw [if_pos hj] at hl
      exact h.2 j v l hv hl
    · cases hv⟩
theorem TxtVs.drop (h : TxtVs w vs ls) (k : Nat) : TxtVs w (vs.drop k) (ls.drop k) :=
  ⟨by rw [List.length_drop, List.length_drop, h.1], fun j v l hv hl => by
    rw [List.getElem?_drop] at hv hl
    exact h.2 _ v l hv hl⟩
theorem TxtVs.one {v : Value} {l : List UInt8} (h : TxtV w v l) : TxtVs w [v] [l] :=
  ⟨rfl, fun j x y hv hl => by
    rcases j with _ | j
    · simp at hv hl
      subst hv hl
      exact h
    · simp at hv⟩
theorem TxtVs.cells (h : TxtVs w vs ls) : ∀ u ∈ vs, u.oneCell' = true := by
  intro u hu
  obtain ⟨j, hj⟩ := List.mem_iff_getElem?.1 hu
  have hl := h.1
  have hjl : j < ls.length := by have := (List.getElem?_eq_some_iff.1 hj).1; omega
  obtain ⟨A, n, c, rfl, _⟩ := h.2 j u _ hj (List.getElem?_eq_getElem hjl)
  rfl
theorem RdL.vals (h : RdL w A n c ls) : ∃ vs, RdV w A n c vs ∧ TxtVs w vs ls := by
  have hl := h.len
  rcases Nat.eq_zero_or_pos n with h0 | h0
  · subst h0
    have : ls = [] := List.eq_nil_of_length_eq_zero hl
    subst this
    exact ⟨[], ⟨rfl, h.cap, h.most, fun hp => absurd hp (by omega)⟩, rfl, fun j v l hv => by simp at hv⟩
  · obtain ⟨b, off, e, hb, hc⟩ := h.cells h0
    obtain ⟨vs, hvl, hv⟩ := list_of (n := n) (R := fun j v => w.cell? ⟨b, off + j, none⟩ = some v ∧ ∀ l, ls[j]? = some l → TxtV w v l) (fun i hi => by
      obtain ⟨Aj, nj, cj, h1, h2⟩ := hc i (by omega)
      refine ⟨.slice Aj nj cj, h1, fun l hl => ⟨Aj, nj, cj, rfl, ?_⟩⟩
      rw [List.getElem?_eq_getElem (by omega)] at hl
      injection hl with hl
      rw [← hl]; exact h2)
    refine ⟨vs, ⟨hvl, h.cap, h.most, fun _ => ⟨b, off, e, fun j hj => (hv j hj).1⟩⟩, by omega, fun j v l h1 h2 => ?_⟩
    obtain ⟨hj, rfl⟩ := List.getElem?_eq_some_iff.1 h1
    exact (hv j hj).2 l h2
theorem RdL.of_vals (h : RdV w A n c vs) (ht : TxtVs w vs ls) : RdL w A n c ls := by
  have hl := h.len
  have h2 := ht.1
  refine ⟨by omega, h.cap, h.most, fun hp => ?_⟩
  obtain ⟨b, off, e, hb, hc⟩ := h.at_ hp
  refine ⟨b, off, e, hb, fun j hj => ?_⟩
  obtain ⟨Aj, nj, cj, e1, hr⟩ := ht.2 j vs[j] ls[j] (List.getElem?_eq_getElem (by omega)) (List.getElem?_eq_getElem hj)
  exact ⟨Aj, nj, cj, by rw [hc j (by omega), e1], hr⟩
end

set_option maxRecDepth 100000 in
theorem rdl_of_trod {H : Type} {enc : TypeId × Value → H} {W : World} {base b0 : Nat} {sp : Nat → Bool} {held : Bool} {r : Reach} {v : Value} {d : DataW H} {p : List MemPlace}
    (hv : Value.okWide Tryd.prog W r b0 107 v) (h : DataW.Trod enc Tryd.prog W base sp held 107 v d p) : ∃ A n c ls, v = .slice A n c ∧ RdL W A n c ls := by
  obtain ⟨A0, n0, c0, rfl⟩ := okWide_slice Tryd.underlying107 hv
  have hC : Tryd.prog.cellsOf 26 = 1 := by kernel_rfl
  have hC5 : Tryd.prog.cellsOf 5 = 1 := by kernel_rfl
  obtain ⟨fuel, hf⟩ := h
  obtain ⟨A, len, cap, hcs, hl, hm, hall⟩ := slice_elems Tryd.underlying107 (by omega) hf
  simp [Value.cells] at hcs
  obtain ⟨rfl, rfl, rfl⟩ := hcs
  rcases Nat.eq_zero_or_pos n0 with h0 | h0
  · subst h0
    exact ⟨A0, 0, c0, [], rfl, rfl, hl, hm, fun hp => absurd hp (by omega)⟩
  · obtain ⟨b, off, rfl, hel⟩ := hall h0
    rw [hC] at hel
    obtain ⟨ls, hll, hR⟩ := list_of (n := n0) (R := fun i l => ∃ Aj nj cj, W.cell? ⟨b, off + i, none⟩ = some (.slice Aj nj cj) ∧ RdB W Aj nj cj l) (fun i hi => by
      obtain ⟨cs, m, z, hcl, hcell, htr⟩ := hel i hi
      obtain ⟨Aj, nj, cj, bs, hcs, hrb⟩ := leaf_bytes Tryd.underlying26 Tryd.underlying5 hC5 htr
      subst hcs
      have h1 := hcell 0 (by omega)
      rw [Nat.mul_one, Nat.add_zero] at h1
      exact ⟨bs, Aj, nj, cj, h1, hrb⟩)
    obtain ⟨Aj, nj, cj, h1, _⟩ := hR 0 (by omega)
    exact ⟨_, n0, c0, ls, rfl, hll, hl, hm, fun _ => ⟨b, off, rfl, World.block_lt_of_cell? W _ h1, fun j hj => hR j hj⟩⟩
end Go.Proofs.YtibcjbelcplpjaaDoor
/-
  Digests held against each other; slices that are cut; texts that a constant is. No statement of the seed is proved here.
-/
namespace Go.Proofs.YtibcjbelcplpjaaDoor
open Go.RowKit
set_option linter.unusedVariables false

theorem RdB.marked (w : World) (e : TypeId) (cs : Array Value) (fr : Nat × Nat) (n : Nat) (bs : List UInt8) (h : cs = (bvs bs).toArray) (hn : bs.length = n) (hm : n ≤ maxLen) : RdB (w.alloc (.cells cs e fr)) (some ⟨w.heap.size, 0, none⟩) n n bs := by
  subst h
  refine ⟨hn, Nat.le_refl _, hm, fun _ => ⟨w.heap.size, 0, rfl, fun j hj => ?_⟩⟩
  rw [cell_of_row _ _ _ _ _ _ (heap_alloc_new w _), Nat.zero_add]
  have := bvs_get bs j hj
  simpa using this
/-- Two digests, held against each other. -/
theorem wpList_eql_key {w : World} {ops : Array Oper} {rest : List Oper} {o : Oper} {a : Act} {Q : Exit → Act → World → Prop} (hgd : o.guard = none) (x y : Operand) (u : TypeId) (ho : o.op = .binOp .eql 23 x y u)
    (l m : List UInt8) (hl : l.length = 32) (hm : m.length = 32) (hx : a.eval x = .agg (bvs l).toArray) (hy : a.eval y = .agg (bvs m).toArray)
    (h : wpList Tryd.prog ops Q rest (a.put o.dst (.bool (l == m))) w) : wpList Tryd.prog ops Q (o :: rest) a w := by
  refine wpList_plain hgd fun K hK => ?_
  have hg := run_eqGuard_agg (P := Tryd.prog) w .eql 23 x y (bvs l).toArray (bvs m).toArray (by kernel_rfl)
  have he := run_eql_bytes (P := Tryd.prog) w 23 5 32 arr32b Tryd.underlying5 (fun W => by
    have h1 := size1b
    cases hq : Tryd.prog.info? 5 with
    | none => simp [hq] at h1
    | some i =>
      have hi : i.size = 1 := by simpa [hq] using h1
      simp [sizeOf, typeInfo, hq, hi]) l m hl hm
  unfold Oper.wp execOp
  simp only [ho, hx, hy, Sem.run_bind, hg, Result.andThen_ok]
  have he2 : (binOp .eql 23 (.agg (bvs l).toArray) (.agg (bvs m).toArray)).run Tryd.prog w = .ok (.bool (l == m)) w := he
  rw [he2]
  exact hK _ _ h

theorem RdL.three {w : World} {A1 A2 A3 : Option Addr} {n1 n2 n3 c1 c2 c3 : Nat} {b1 b2 b3 : List UInt8} (e : TypeId) (h1 : RdB w A1 n1 c1 b1) (h2 : RdB w A2 n2 c2 b2) (h3 : RdB w A3 n3 c3 b3) :
    RdL (w.alloc (.cells #[.slice A1 n1 c1, .slice A2 n2 c2, .slice A3 n3 c3] e)) (some ⟨w.heap.size, 0, none⟩) 3 3 [b1, b2, b3] := by
  refine ⟨rfl, Nat.le_refl _, by simp [maxLen], fun _ => ⟨w.heap.size, 0, rfl, by simp, fun j hj => ?_⟩⟩
  have hj3 : j = 0 ∨ j = 1 ∨ j = 2 := by simp at hj; omega
  rcases hj3 with rfl | rfl | rfl
  · exact ⟨A1, n1, c1, by rw [cell_of_row _ _ _ _ _ _ (heap_alloc_new w _)]; rfl, h1.alloc _⟩
  · exact ⟨A2, n2, c2, by rw [cell_of_row _ _ _ _ _ _ (heap_alloc_new w _)]; rfl, h2.alloc _⟩
  · exact ⟨A3, n3, c3, by rw [cell_of_row _ _ _ _ _ _ (heap_alloc_new w _)]; rfl, h3.alloc _⟩

theorem run_equalIn_key (l : List UInt8) (hl : l.length = 32) (W : World) : (Op.equalIn 10000 23 (.agg (bvs l).toArray) (.agg (bvs l).toArray)).run Tryd.prog W = .ok true W := by
  have he := run_equalIn_bytes (P := Tryd.prog) W 9998 23 5 32 arr32b Tryd.underlying5 (fun W => by
    have h1 := size1b
    cases hq : Tryd.prog.info? 5 with
    | none => simp [hq] at h1
    | some i =>
      have hi : i.size = 1 := by simpa [hq] using h1
      simp [sizeOf, typeInfo, hq, hi]) l l hl hl
  rw [show (l == l) = true by simp] at he
  exact he
theorem flat_le (ls : List (List UInt8)) (b : Nat) (h : ∀ l ∈ ls, l.length ≤ b) : ls.flatten.length ≤ ls.length * b := by
  induction ls with
  | nil => simp
  | cons x l ih =>
    have h1 := h x (by simp)
    have h2 := ih (fun y hy => h y (by simp [hy]))
    rw [List.flatten_cons, List.length_append, List.length_cons, Nat.succ_mul]
    omega
theorem infoB : (Tryd.prog.info? 26).map (fun i => (i.zero, i.size, i.bytes)) = some (some (.slice none 0 0), 1, 24) := by kernel_rfl

section
variable {P : Program} {w : World} {A : Option Addr} {n c : Nat} {vs : List Value}
theorem RdV.cutFrom (h : RdV w A n c vs) (t e : TypeId) (ht : P.underlying t = some (.slice e)) (hs : (P.info? e).map (·.size) = some 1) (k : Nat) (z : Int) (hz : z = (k : Int)) (hk : k ≤ n) :
    ∃ A', RdV w A' (n - k) (c - k) (vs.drop k) ∧ ∀ W, (Instr.slice t (.slice A n c) (some (.int .i64 z)) none none).run P W = .ok (.slice A' (n - k) (c - k)) W := by
  subst hz
  have hcap := h.cap
  refine ⟨_, h.drop k hk, fun W => ?_⟩
  have he : P.elem t = e := by simp [Program.elem, ht]
  rw [run_slice_l (P := P) W t A n c (by rw [he]; exact ht) .i64 (k : Int) (by omega) (by omega), size_of_elem t e ht hs W]
  simp [sliced, Result.andThen]
theorem RdV.cutTo (h : RdV w A n c vs) (t e : TypeId) (ht : P.underlying t = some (.slice e)) (hs : (P.info? e).map (·.size) = some 1) (k : Nat) (z : Int) (hz : z = (k : Int)) (hk : k ≤ n) :
    ∃ A', RdV w A' k c (vs.take k) ∧ ∀ W, (Instr.slice t (.slice A n c) none (some (.int .i64 z)) none).run P W = .ok (.slice A' k c) W := by
  subst hz
  have hcap := h.cap
  have h0 := (h.drop 0 (by omega)).take k (by omega)
  rw [List.drop_zero, Nat.sub_zero] at h0
  refine ⟨_, h0, fun W => ?_⟩
  have he : P.elem t = e := by simp [Program.elem, ht]
  rw [run_slice_h (P := P) W t A n c (by rw [he]; exact ht) .i64 (k : Int) (by omega) (by omega), size_of_elem t e ht hs W]
  simp [sliced, Result.andThen]
end

end Go.Proofs.YtibcjbelcplpjaaDoor
/-
  Contract of the document's own eight words behind a block. No statement of the seed is proved here.
-/
namespace Go.Proofs.YtibcjbelcplpjaaDoor
open Go.RowKit
set_option linter.unusedVariables false

theorem RdV.cutMid {P : Program} {w : World} {A : Option Addr} {n c : Nat} {vs : List Value} (h : RdV w A n c vs) (t e : TypeId) (ht : P.underlying t = some (.slice e)) (hs : (P.info? e).map (·.size) = some 1) (l k : Nat) (y z : Int) (hy : y = (l : Int)) (hz : z = (k : Int)) (hl : l ≤ k) (hk : k ≤ n) :
    ∃ A', RdV w A' (k - l) (c - l) ((vs.drop l).take (k - l)) ∧ ∀ W, (Instr.slice t (.slice A n c) (some (.int .i64 y)) (some (.int .i64 z)) none).run P W = .ok (.slice A' (k - l) (c - l)) W := by
  subst hy hz
  have hcap := h.cap
  refine ⟨_, (h.drop l (by omega)).take (k - l) (by omega), fun W => ?_⟩
  have he : P.elem t = e := by simp [Program.elem, ht]
  rw [run_slice_lh (P := P) W t A n c (by rw [he]; exact ht) .i64 .i64 (l : Int) (k : Int) (by omega) (by omega) (by omega), size_of_elem t e ht hs W]
  simp [sliced, Result.andThen]
theorem size1w : (Tryd.prog.info? 114).map (·.size) = some 1 := by kernel_rfl
theorem subW (x : W32) : (4294967295 - wv x) % 4294967296 = wv (~~~x) := by
  rw [wv_eq, wv_eq, BitVec.toNat_not]
  have := x.isLt
  omega
theorem subW' (x : W32) : 4294967295 - wv x = wv (~~~x) := by
  rw [← subW]
  have := wv_nonneg x
  have := wv_lt x
  omega

set_option maxRecDepth 100000 in
set_option maxHeartbeats 4000000 in
theorem rBehind_any (Af : Option Addr) (cf : Nat) (s : St) (A : Option Addr) (c : Nat) (bs : List UInt8) (w : World) (hf : RdV w Af 8 cf (wvs s.l)) (hr : RdB w A 64 c bs) :
    Calls Tryd.prog 76 #[.slice Af 8 cf, .slice A 64 c] w (RowRet (mixB s bs).l w) := by
  obtain ⟨i0, hi, hz0, hz1, hz2⟩ := info_parts u32info
  go_enter Tryd.func76, Tryd.ntmps76
  go_wp2_with fail
  refine (rSpread_any A c bs _ hr).mono ?_
  rintro e w1 ⟨v1, rfl, ho1, hk1, hb1⟩
  obtain ⟨g, cap, hv, hglt, hgc, hgm, hcell⟩ := ho1.at0 (by rw [wvs_length, words64_length]; omega)
  have hwl : (wvs (words64 bs)).length = 64 := by rw [wvs_length, words64_length]
  rw [hwl] at hv hgc
  subst hv
  have hcl : ∀ t : Nat, t < 64 → w1.cell? ⟨g, t, none⟩ = some (.int .u32 (wv ((words64 bs).getD t 0))) := fun t ht => by
    rw [hcell t (by omega), ← wvs_get (words64 bs) t (by rw [words64_length]; exact ht), List.getElem?_eq_getElem (by omega)]
  have HC := Lib.hid hcl
  have hf1 := hf.kept0 hk1
  clear hcl hcell ho1 hwl hb1 hf hr
  go_wp2_with fail
  refine (rRounds_any _).mono ?_
  rintro e w2 ⟨K, rfl, hKs, rfl⟩
  have HKs := Lib.hid hKs
  clear hKs
  go_wp2
  go_loopw [7, 8] (fun v i wr => ∃ (n : Nat) (Av : Option Addr) (cv : Nat) (t : St), n ≤ 64 ∧ i = .int .i64 n ∧ v = .slice Av 8 cv ∧ Hid (t = rnds (words64 bs) s n) ∧ RdV wr Av 8 cv (wvs t.l) ∧ Kept [] w1 wr) (fun _ i _ => 64 - (intOf i).toNat)
  case atStart => exact ⟨0, Af, cf, s, by omega, rfl, rfl, Lib.hid rfl, hf1, Kept.refl _ _⟩
  case round =>
    obtain ⟨n, Av, cv, t, hn, rfl, rfl, Ht, hv, hK⟩ := hrel
    by_cases hlt : n < 64
    · have Hr : Hid (rnds (words64 bs) s (n + 1) = rnd (ks.getD n 0) ((words64 bs).getD n 0) t) := by
        have := Ht.out
        show _ = _
        rw [this]; rfl
      have cW : wr.cell? ⟨g, n, none⟩ = some (.int .u32 (wv ((words64 bs).getD n 0))) := (hK.cell (p := ⟨g, n, none⟩) hglt (by simp)).trans (HC.out n hlt)
      generalize hx : (words64 bs).getD n 0 = x at cW Hr
      generalize hk : ks.getD n 0 = k at Hr
      have Hk := Lib.hid hk
      clear hx hk Ht
      obtain ⟨ta, tb, tc, td, te, tf, tg, th⟩ := t
      obtain ⟨b, off, rfl, hblt, hcv⟩ := hv.at_ (by omega)
      have d0 : wr.cell? ⟨b, off, none⟩ = some (.int .u32 (wv ta)) := hcv 0 (by show 0 < 8; omega)
      have d1 : wr.cell? ⟨b, off + 1, none⟩ = some (.int .u32 (wv tb)) := hcv 1 (by show 1 < 8; omega)
      have d2 : wr.cell? ⟨b, off + 2, none⟩ = some (.int .u32 (wv tc)) := hcv 2 (by show 2 < 8; omega)
      have d3 : wr.cell? ⟨b, off + 3, none⟩ = some (.int .u32 (wv td)) := hcv 3 (by show 3 < 8; omega)
      have d4 : wr.cell? ⟨b, off + 4, none⟩ = some (.int .u32 (wv te)) := hcv 4 (by show 4 < 8; omega)
      have d5 : wr.cell? ⟨b, off + 5, none⟩ = some (.int .u32 (wv tf)) := hcv 5 (by show 5 < 8; omega)
      have d6 : wr.cell? ⟨b, off + 6, none⟩ = some (.int .u32 (wv tg)) := hcv 6 (by show 6 < 8; omega)
      have d7 : wr.cell? ⟨b, off + 7, none⟩ = some (.int .u32 (wv th)) := hcv 7 (by show 7 < 8; omega)
      have hcap := hv.cap
      have hmost := hv.most
      unfold maxLen at hmost
      have ra : ∀ x y : W32, bits .and .u32 (wv x) (wv y) = wv (x &&& y) := bits_andW
      have ro : ∀ x y : W32, bits .or .u32 (wv x) (wv y) = wv (x ||| y) := bits_orW
      have rs : ∀ x : W32, IntKind.u32.wrap (4294967295 - wv x) = wv (~~~x) := fun x => (IntKind.wrap_u32' _).trans (subW x)
      have rs2 : ∀ x : W32, 4294967295 - wv x = wv (~~~x) := subW'
      have rs3 : ∀ x : W32, wv x % 4294967296 = wv x := fun x => by have := wv_nonneg x; have := wv_lt x; omega
      have HW : Hid (∀ W, Calls Tryd.prog 74 #[.string K, .int .i64 n] W fun e w' => e = .returned (.int .u32 (wv k)) ∧ W = w') := fun W => by
        have := rWord_any K ks n W HKs.out hlt (by rw [ks_length]; omega)
        rw [Hk.out] at this
        exact this
      clear hcv
      go_wp2
      go_quiet (fail)
      generalize nq = q1
      go_wp2
      go_quiet (fail)
      go_wp2
      clear rs rs2 rs3
      generalize hwq : (wr.drewN q1).drewN nq = wq
      have KQ : Hid (Kept [] wr wq) := by rw [← hwq]; exact ((Kept.refl [] wr).drewN _).drewN _
      have hvq := hv.kept0 KQ.out
      have hKq := hK.andThen KQ.out
      have e0 := (KQ.out.cell (p := ⟨b, off, none⟩) hblt (by simp)).trans d0
      have e3 := (KQ.out.cell (p := ⟨b, off + 3, none⟩) hblt (by simp)).trans d3
      have e4 := (KQ.out.cell (p := ⟨b, off + 4, none⟩) hblt (by simp)).trans d4
      have e7 := (KQ.out.cell (p := ⟨b, off + 7, none⟩) hblt (by simp)).trans d7
      have hglt2 : g < wr.heap.size := Nat.lt_of_lt_of_le hglt hK.size
      have eW := (KQ.out.cell (p := ⟨g, n, none⟩) hglt2 (by simp)).trans cW
      have hbq : b < wq.heap.size := Nat.lt_of_lt_of_le hblt KQ.out.size
      have hgq : g < wq.heap.size := Nat.lt_of_lt_of_le hglt2 KQ.out.size
      clear hwq KQ hv hK d0 d1 d2 d3 d4 d5 d6 d7 cW hblt hglt2
      have SK : Hid (∀ W, Kept [] wq W → W.cell? ⟨b, off + 7, none⟩ = some (.int .u32 (wv th)) ∧ W.cell? ⟨b, off + 4, none⟩ = some (.int .u32 (wv te)) ∧ W.cell? ⟨g, n, none⟩ = some (.int .u32 (wv x))) := fun W hk =>
        ⟨(hk.cell (p := ⟨b, off + 7, none⟩) hbq (by simp)).trans e7, (hk.cell (p := ⟨b, off + 4, none⟩) hbq (by simp)).trans e4, (hk.cell (p := ⟨g, n, none⟩) hgq (by simp)).trans eW⟩
      have K0 : Hid (Kept [] wq wq.drew) := (Kept.refl [] wq).drew
      have rw1 : ∀ x y : W32, IntKind.u32.wrap (wv x + wv y) = wv (x + y) := fun x y => (IntKind.wrap_u32' _).trans (wv_add x y)
      have rw2 : ∀ x y : W32, (wv x + wv y) % 4294967296 = wv (x + y) := wv_add
      have rw3 : ∀ a b c : W32, (wv a + wv b + wv c) % 4294967296 = wv (a + b + c) := wv_add3
      have rw4 : ∀ a b c d : W32, (wv a + wv b + wv c + wv d) % 4294967296 = wv (a + b + c + d) := wv_add4
      have hnz : (n : Int) < 64 := by omega
      go_region_held3 (fun w' => w'.cell? ⟨b, off + 7, none⟩ = some (.int .u32 (wv th)) ∧ w'.cell? ⟨b, off + 4, none⟩ = some (.int .u32 (wv te)) ∧ w'.cell? ⟨g, n, none⟩ = some (.int .u32 (wv x)))
        (first
          | exact SK.out _ (Kept.refl [] wq)
          | exact SK.out _ K0.out
          | exact SK.out _ hK4.out)
        (first
          | (go_at_call 88; refine (rThree_at te 6 11 25 _ _ _ _ rfl rfl rfl (by omega) (by omega) (by omega)).mono ?_; rintro e w4 ⟨rfl, hk4⟩; have hK4 := Lib.hid (K0.out.andThen hk4))
          | (go_at_call 74; refine (HW.out _).mono ?_; rintro e w5 ⟨rfl, rfl⟩))
      have hX : th + three te 6 11 25 + (te &&& tf ||| ~~~te &&& tg) + k + x = rndX k x ⟨ta, tb, tc, td, te, tf, tg, th⟩ := by rw [three_S1, chW_or]; rfl
      rw [hX]
      have f0 := (hK4.out.cell (p := ⟨b, off, none⟩) hbq (by simp)).trans e0
      obtain ⟨A3, r3, q3⟩ := hvq.cutTo (P := Tryd.prog) 113 114 Tryd.underlying113 size1w 3 3 rfl (by omega)
      obtain ⟨A7, r7, q7⟩ := hvq.cutMid (P := Tryd.prog) 113 114 Tryd.underlying113 size1w 4 7 4 7 rfl rfl (by omega) (by omega)
      have Hr3 := Lib.hid r3
      have Hr7 := Lib.hid r7
      clear r3 r7 hX SK K0 HW e4 e7 eW ra ro HC
      go_wp2_with fail
      refine (rThree_at ta 2 13 22 _ _ _ _ rfl rfl rfl (by omega) (by omega) (by omega)).mono ?_
      rintro e w6 ⟨rfl, hk6⟩
      have hK6 := hK4.out.andThen hk6
      clear f0 hk6 hK4 hk4
      go_wp2_with (at_builtin; refine wpList_append_vals rfl (.tmp 82) (.tmp 92) 113 rfl 114 i0 _ 4 Tryd.underlying113 hi hz0 hz1 hz2 rfl (.slice none 0 0) [] rfl (OwV.nil _ _) _ 1 1 _ rfl (RdV.one w6 _ _) (by simp [Value.oneCell']) (by simp [maxLen]) (by simp) ?_)
      intro v8 w8 ho8 hk8 hm8
      obtain ⟨hK8, hb8⟩ := app_new (hK6.alloc _) (by simp [Value.ownBlock]) hk8 hm8
      obtain ⟨A8, n8, c8, rfl, hr8, _⟩ := ho8.form
      have hn0 : rndX k x ⟨ta, tb, tc, td, te, tf, tg, th⟩ + three ta 2 13 22 + (ta &&& tb ||| ta &&& tc ||| tb &&& tc) = (rnd k x ⟨ta, tb, tc, td, te, tf, tg, th⟩).a := by
        rw [three_S0, majW_or, BitVec.add_assoc]; rfl
      rw [hn0] at ho8
      have g3 := (hK8.cell (p := ⟨b, off + 3, none⟩) hbq (by simp)).trans e3
      clear hn0 hk8 hm8 hr8 hK6 e0
      go_wp2_with (at_builtin; refine wpList_append_vals rfl (.tmp 94) (.tmp 96) 113 rfl 114 i0 _ 4 Tryd.underlying113 hi hz0 hz1 hz2 rfl (.slice A8 n8 c8) _ rfl ho8 A3 3 cv _ rfl (Hr3.out.kept0 hK8) (fun u hu => wvs_one _ u (List.mem_of_mem_take hu)) (by simp [maxLen]) (by simp) ?_)
      intro v9 w9 ho9 hk9 hm9
      obtain ⟨hK9, hb9⟩ := app_new hK8 hb8 hk9 hm9
      obtain ⟨A9, n9, c9, rfl, hr9, _⟩ := ho9.form
      have g3' := (hK9.cell (p := ⟨b, off + 3, none⟩) hbq (by simp)).trans e3
      clear g3 ho8 hk9 hm9 hr9 hK8 hb8
      go_wp2_with (at_builtin; refine wpList_append_vals rfl (.tmp 98) (.tmp 104) 113 rfl 114 i0 _ 4 Tryd.underlying113 hi hz0 hz1 hz2 rfl (.slice A9 n9 c9) _ rfl (ho9.alloc _) _ 1 1 _ rfl (RdV.one w9 _ _) (by simp [Value.oneCell']) (by simp [maxLen, wvs, St.l]) (by simp [wvs, St.l]) ?_)
      intro v10 w10 ho10 hk10 hm10
      obtain ⟨hK10, hb10⟩ := app_new (hK9.alloc _) hb9 hk10 hm10
      obtain ⟨A10, n10, c10, rfl, hr10, _⟩ := ho10.form
      clear g3' ho9 hk10 hm10 hr10 hK9 hb9 e3
      go_wp2_with (at_builtin; refine wpList_append_vals rfl (.tmp 106) (.tmp 108) 113 rfl 114 i0 _ 4 Tryd.underlying113 hi hz0 hz1 hz2 rfl (.slice A10 n10 c10) _ rfl ho10 A7 3 (cv - 4) _ rfl (Hr7.out.kept0 hK10) (fun u hu => wvs_one _ u (List.mem_of_mem_drop (List.mem_of_mem_take hu))) (by simp [maxLen, wvs, St.l]) (by simp [wvs, St.l]) ?_)
      intro v11 w11 ho11 hk11 hm11
      obtain ⟨hK11, hb11⟩ := app_new hK10 hb10 hk11 hm11
      obtain ⟨A11, n11, c11, rfl, hr11, _⟩ := ho11.form
      have ho12 : OwV 114 w11 (.slice A11 n11 c11) (wvs (rnd k x ⟨ta, tb, tc, td, te, tf, tg, th⟩).l) := ho11
      obtain rfl : 8 = n11 := (ho12.rd).len
      have hr12 := ho12.rd
      have hKe := hKq.andThen hK11
      clear ho10 ho11 ho12 hr11 hk11 hm11 hK10 hb10 hK11 hb11 Hr3 Hr7 q3 q7 hvq hKq
      go_wp2
      go_roundw
      case rel => exact ⟨n + 1, A11, c11, rnd k x ⟨ta, tb, tc, td, te, tf, tg, th⟩, by omega, by go_num, rfl, Hr.out.symm, hr12, hKe⟩
      case measure => simp [intOf]; omega
    · obtain rfl : n = 64 := by omega
      obtain ⟨wz, rfl⟩ : ∃ wz, wz = wr := ⟨_, rfl⟩
      have Hm : Hid (addSt s t = mixB s bs) := by
        have := Ht.out
        show _ = _
        rw [this, mixB_eq]
      obtain ⟨b, off, rfl, hblt, hcv⟩ := hv.at_ (by omega)
      obtain ⟨bf, offf, rfl, hbflt, hcf⟩ := hf1.at_ (by omega)
      have HV : Hid (∀ i, i < 8 → wz.cell? ⟨b, off + i, none⟩ = some (.int .u32 (wv (t.l.getD i 0)))) := fun i h8 => by
        rw [hcv i h8, ← wvs_get t.l i h8, List.getElem?_eq_getElem h8]
      have HF : Hid (∀ i, i < 8 → wz.cell? ⟨bf, offf + i, none⟩ = some (.int .u32 (wv (s.l.getD i 0)))) := fun i h8 => by
        rw [hK.cell (p := ⟨bf, offf + i, none⟩) hbflt (by simp), hcf i h8, ← wvs_get s.l i h8, List.getElem?_eq_getElem h8]
      have hbfr : bf < wz.heap.size := Nat.lt_of_lt_of_le hbflt hK.size
      have hcap1 := hv.cap
      have hcap2 := hf1.cap
      have hKw := hk1.andThen hK
      clear Ht hcv hcf hv hf1 HC HKs hk1 hK hbflt
      go_wp2
      rw [show ((64 : Nat) : Int) = 64 from rfl]
      go_loopw [13, 14] (fun o i wo => ∃ (k : Nat) (A3 : Option Addr) (c3 : Nat), k ≤ 8 ∧ i = .int .i64 k ∧ o = .slice A3 k c3 ∧ OwV 114 wo (.slice A3 k c3) (wvs ((addSt s t).l.take k)) ∧ Kept [] wz wo ∧ Hid (∀ g, (Value.slice A3 k c3).ownBlock = some g → wz.heap.size ≤ g)) (fun _ i _ => 8 - (intOf i).toNat)
      case atStart => exact ⟨0, none, 0, by omega, rfl, rfl, OwV.nil _ _, Kept.refl _ _, Lib.hid (by simp [Value.ownBlock])⟩
      case round =>
        obtain ⟨k, A3, c3, hk, rfl, rfl, ho, hKo, Hb⟩ := hrel
        by_cases hlt : k < 8
        · have x1 := (hKo.cell (p := ⟨b, off + k, none⟩) hblt (by simp)).trans (HV.out k hlt)
          have x2 := (hKo.cell (p := ⟨bf, offf + k, none⟩) hbfr (by simp)).trans (HF.out k hlt)
          have hsum := add8 s t k hlt
          have hst : wvs ((addSt s t).l.take (k + 1)) = wvs ((addSt s t).l.take k) ++ [.int .u32 (wv (s.l.getD k 0 + t.l.getD k 0))] := by
            rw [take_step (addSt s t).l k ((addSt s t).l.getD k 0) (by rw [List.getElem?_eq_getElem hlt, List.getD_eq_getElem?_getD, List.getElem?_eq_getElem hlt]; rfl), wvs_append, hsum]
            rfl
          have hl : (wvs ((addSt s t).l.take k)).length = k := by rw [wvs_length, List.length_take]; show min k 8 = k; omega
          have Hst := Lib.hid hst
          have Hl := Lib.hid hl
          generalize s.l.getD k 0 = ya at *
          generalize t.l.getD k 0 = yb at *
          have rw1 : ∀ x y : W32, IntKind.u32.wrap (wv x + wv y) = wv (x + y) := fun x y => (IntKind.wrap_u32' _).trans (wv_add x y)
          have rw2 : ∀ x y : W32, (wv x + wv y) % 4294967296 = wv (x + y) := wv_add
          have hkz : (k : Int) < 8 := by omega
          have SK : Hid (∀ W, Kept [] wr W → W.cell? ⟨b, off + k, none⟩ = some (.int .u32 (wv yb)) ∧ W.cell? ⟨bf, offf + k, none⟩ = some (.int .u32 (wv ya))) := fun W hk =>
            ⟨(hk.cell (p := ⟨b, off + k, none⟩) (Nat.lt_of_lt_of_le hblt hKo.size) (by simp)).trans x1, (hk.cell (p := ⟨bf, offf + k, none⟩) (Nat.lt_of_lt_of_le hbfr hKo.size) (by simp)).trans x2⟩
          have K0 : Hid (Kept [] wr wr.drew) := (Kept.refl [] wr).drew
          have K1 : Hid (Kept [] wr (wr.alloc (.cells #[.int .u32 (wv (ya + yb))] 114)).drew) := ((Kept.refl [] wr).alloc _).drew
          have R1 : Hid (RdV (wr.alloc (.cells #[.int .u32 (wv (ya + yb))] 114)).drew (some ⟨wr.heap.size, 0, none⟩) 1 1 [.int .u32 (wv (ya + yb))]) := (RdV.one wr _ _).kept0 (Kept.refl [] _).drew
          clear hst hl hsum HV HF
          go_wp2
          go_region_held3 (fun w' => w'.cell? ⟨b, off + k, none⟩ = some (.int .u32 (wv yb)) ∧ w'.cell? ⟨bf, offf + k, none⟩ = some (.int .u32 (wv ya)))
            (first
              | exact SK.out _ (Kept.refl [] wr)
              | exact SK.out _ K0.out
              | exact SK.out _ K1.out
              | exact ⟨(hk6.cell (p := ⟨b, off + k, none⟩) (Nat.lt_of_lt_of_le (Nat.lt_of_lt_of_le hblt hKo.size) K1.out.size) (fun hm => by have := Hb.out b (by simpa using hm); omega)).trans (SK.out _ K1.out).1, (hk6.cell (p := ⟨bf, offf + k, none⟩) (Nat.lt_of_lt_of_le (Nat.lt_of_lt_of_le hbfr hKo.size) K1.out.size) (fun hm => by have := Hb.out bf (by simpa using hm); omega)).trans (SK.out _ K1.out).2⟩)
            (first
              | (refine step_append_vals (by rfl) (.tmp 115) (.tmp 125) 113 (by rfl) 114 i0 _ 4 Tryd.underlying113 hi hz0 hz1 hz2 (by rfl) _ (wvs ((addSt s t).l.take k)) (by rfl) (ho.kept0 K1.out) _ 1 1 _ (by rfl) R1.out (by simp [Value.oneCell']) (by rw [Hl.out]; simp only [maxLen]; omega) (by rw [Hl.out]; omega) ?_; intro v6 w6 ho6 hk6 hm6))
          obtain ⟨hK6, hb6⟩ := app_new (hKo.andThen K1.out) Hb.out hk6 hm6
          obtain ⟨A4, n4, c4, rfl, hr4, _⟩ := ho6.form
          rw [← Hst.out] at ho6
          obtain rfl : k + 1 = n4 := by have := hr4.len; rw [List.length_append, Hl.out] at this; exact this
          have Hb6 := Lib.hid hb6
          clear hr4 hb6 hk6 hm6 ho hKo Hb SK K0 K1 R1 x1 x2
          go_wp2
          go_roundw
          case rel => exact ⟨k + 1, A4, c4, by omega, by go_num, rfl, ho6, hK6, Hb6⟩
          case measure => simp [intOf]; omega
        · obtain rfl : 8 = k := by omega
          rw [List.take_of_length_le (by show 8 ≤ 8; omega), Hm.out] at ho
          have hs1 := hKw.size
          go_wp2
          go_ret
          exact ⟨_, rfl, ho, hKw.andThen hKo, fun g hg => Nat.le_trans hs1 (Hb.out g hg)⟩
end Go.Proofs.YtibcjbelcplpjaaDoor
/-
  Contract of the document's own filled text. No statement of the seed is proved here.
-/
namespace Go.Proofs.YtibcjbelcplpjaaDoor
open Go.RowKit
set_option linter.unusedVariables false

theorem fill_here (n q : Nat) (h1 : n + 1 ≤ q) (h2 : q ≤ n + fillN n) (h : q % 64 = 56) : q = n + fillN n := by unfold fillN at *; omega
theorem fill_on (n q : Nat) (h1 : n + 1 ≤ q) (h2 : q ≤ n + fillN n) (h : ¬ q % 64 = 56) : q + 1 ≤ n + fillN n := by unfold fillN at *; omega
theorem set_mid (a : List UInt8) (m : Nat) (b : UInt8) (h : 0 < m) : (a ++ List.replicate m 0).set a.length b = (a ++ [b]) ++ List.replicate (m - 1) 0 := by
  rw [List.set_append_right _ _ (Nat.le_refl _), Nat.sub_self, List.append_assoc]
  congr 1
  obtain ⟨k, rfl⟩ : ∃ k, m = k + 1 := ⟨m - 1, by omega⟩
  rw [List.replicate_succ, List.set_cons_zero, Nat.add_sub_cancel]
  rfl

set_option maxRecDepth 100000 in
set_option maxHeartbeats 2000000 in
theorem rFilled_any (A : Option Addr) (n c : Nat) (bs : List UInt8) (w : World) (hr : RdB w A n c bs) (hn : n ≤ 1000000) :
    Calls Tryd.prog 73 #[.slice A n c] w (CloneRet (padded bs) w) := by
  obtain ⟨i0, hi, hz0, hz1, hz2⟩ := info_parts u8info
  have hf := fillN_pos n
  have hl := hr.len
  have Hl := Lib.hid hl
  go_enter Tryd.func73, Tryd.ntmps73
  go_wp2
  go_loop [3] (fun i => ∃ q : Nat, n + 1 ≤ q ∧ q ≤ n + fillN n ∧ i = .int .i64 q) (fun i => n + fillN n - (intOf i).toNat)
  case atStart => exact ⟨n + 1, by omega, by omega, by show _ = Value.int .i64 ((n + 1 : Nat) : Int); congr 1; omega⟩
  case round =>
    obtain ⟨q, hq1, hq2, rfl⟩ := hrel
    by_cases h56 : q % 64 = 56
    · have hq := fill_here n q hq1 hq2 h56
      have he : ((q : Int) % 64 != 56) = false := by simp; omega
      have Hq := Lib.hid hq
      clear hq hl
      go_wp2_with (refine wpList_make_bytes rfl (.tmp 14) (.tmp 14) 26 rfl 5 i0 Tryd.underlying26 hi hz0 hz1 hz2 _ _ _ _ q rfl rfl rfl rfl (by omega) ?_)
      intro w1 hown1 hk1
      go_wp2
      go_loopw [5] (fun i wr => ∃ k : Nat, k ≤ n ∧ i = .int .i64 k ∧ OwB 5 wr (.slice (some ⟨w.heap.size, 0, none⟩) q q) (bs.take k ++ List.replicate (q - k) 0) ∧ Kept [] w wr) (fun i _ => n - (intOf i).toNat)
      case atStart => exact ⟨0, by omega, rfl, by simpa using hown1, hk1⟩
      case round =>
        obtain ⟨k, hk, rfl, ho, hK⟩ := hrel
        have hkl : (bs.take k).length = k := by rw [List.length_take]; have := Hl.out; omega
        by_cases hlt : k < n
        · obtain ⟨b, off, y, e1, c1, hy1, hy⟩ := hr.byte hlt
          subst e1
          obtain ⟨b2, off2, e2, hb2, _⟩ := hr.at_ (by omega)
          have c2 : wr.cell? ⟨b, off + k, none⟩ = some (.int .u8 (y.toNat : Int)) := (hK.cell (p := ⟨b, off + k, none⟩) (by cases e2; exact hb2) (by simp)).trans c1
          have hnew := ho.set k y
          have hse := set_mid (bs.take k) (q - k) y (by omega)
          rw [hkl] at hse
          rw [hse, ← take_step bs k y hy1, Nat.sub_sub] at hnew
          have hfz := ho.fz k
          obtain ⟨b3, off3, y3, e3, c3, _, _⟩ := ho.rd.byte (k := k) (by omega)
          simp only [Option.some.injEq, Addr.mk.injEq] at e3
          obtain ⟨rfl, rfl, _⟩ := e3
          rw [Nat.zero_add] at c3
          have hkn : Kept [] w (wr.setCell ⟨w.heap.size, k, none⟩ (.int .u8 (y.toNat : Int))) := hK.setCell (by simp) _
          unfold bcell at hnew
          clear hse hkl e2 hy1 c1
          go_wp2
          go_roundw
          case rel => exact ⟨k + 1, by omega, by go_num, hnew, hkn⟩
          case measure => simp [intOf]; omega
        · obtain rfl : n = k := by omega
          rw [List.take_of_length_le (by have := Hl.out; omega)] at ho
          have hnew := ho.set n 128
          have hse := set_mid bs (q - n) 128 (by omega)
          rw [Hl.out] at hse
          rw [hse] at hnew
          have hfz := ho.fz n
          obtain ⟨b3, off3, y3, e3, c3, _, _⟩ := ho.rd.byte (k := n) (by omega)
          simp only [Option.some.injEq, Addr.mk.injEq] at e3
          obtain ⟨rfl, rfl, _⟩ := e3
          rw [Nat.zero_add] at c3
          have hkn : Kept [] w (wr.setCell ⟨w.heap.size, n, none⟩ (.int .u8 128)) := hK.setCell (by simp) _
          have hnew2 : OwB 5 (wr.setCell ⟨w.heap.size, n, none⟩ (.int .u8 128)) (.slice (some ⟨w.heap.size, 0, none⟩) q q) (bs ++ [128] ++ List.replicate (q - n - 1) 0) := hnew
          have hpad : bs ++ [128] ++ List.replicate (q - n - 1) 0 ++ be 8 (8 * n) = padded bs := by
            unfold padded tail8
            rw [Hl.out, Hq.out, Nat.add_sub_cancel_left]
            simp
          have hpl : (bs ++ [128] ++ List.replicate (q - n - 1) 0).length = q := by
            simp only [List.length_append, List.length_singleton, List.length_replicate, Hl.out]; omega
          have Hpad := Lib.hid hpad
          have Hpl := Lib.hid hpl
          clear hse hkl hnew hown1 hpad hpl ho
          go_wp2_with fail
          refine (rfBytes_any (8 * (n : Int)) 8 _ (by omega) (by omega) (by omega)).mono ?_
          rw [show (8 * (n : Int)).toNat = 8 * n by omega]
          rintro e w5 ⟨v5, rfl, ho5, hk5, hf5⟩
          obtain ⟨A5, n5, c5, rfl, hr5, _⟩ := ho5.form
          obtain rfl : 8 = n5 := by have := hr5.len; rw [be_length] at this; exact this
          have hown5 := hnew2.kept0 hk5
          have hs5 := (hkn.andThen hk5).size
          go_wp2_with (at_builtin; refine wpList_append_bytes rfl (.tmp 33) (.tmp 38) 26 rfl 5 i0 _ 1 Tryd.underlying26 hi hz0 hz1 hz2 rfl (.slice (some ⟨w.heap.size, 0, none⟩) q q) _ rfl hown5 A5 8 c5 _ rfl hr5 (by rw [Hpl.out]; simp only [maxLen]; omega) (by rw [Hpl.out]; omega) ?_)
          intro v6 w6 ho6 hk6 hm6
          replace ho6 : OwB 5 w6 v6 (padded bs) := by rw [← Hpad.out]; simpa using ho6
          obtain ⟨A6, n6, c6, rfl, hr6, _⟩ := ho6.form
          go_wp2
          go_ret
          refine ⟨_, rfl, ho6, (hkn.andThen hk5).trans hk6 (by simp [Value.ownBlock]), fun g hg => ?_⟩
          rcases hm6 g hg with h | h
          · simp [Value.ownBlock] at h; omega
          · omega
    · have hq := fill_on n q hq1 hq2 h56
      have he : ((q : Int) % 64 != 56) = true := by simp; omega
      clear hl
      go_wp2
      go_round
      case rel => exact ⟨q + 1, by omega, by omega, by go_num⟩
      case measure => simp [intOf]; omega
end Go.Proofs.YtibcjbelcplpjaaDoor
/-
  Contract of the document's own digest of a text. No statement of the seed is proved here.
-/
namespace Go.Proofs.YtibcjbelcplpjaaDoor
open Go.RowKit
set_option linter.unusedVariables false

theorem run_step (s : St) (dn u : List UInt8) (h : dn.length % 64 = 0) (hu : u.length = 64) : run s (dn ++ u) = mixB (run s dn) u := by
  rw [run_full s dn u (by omega)]
  congr 1
  rw [List.drop_of_length_le (by omega), List.nil_append]
theorem builtKey : Tryd.prog.built 23 [] = some (zb 32).toArray := by kernel_rfl

set_option maxRecDepth 100000 in
set_option maxHeartbeats 4000000 in
theorem rSum_any (A : Option Addr) (n c : Nat) (bs : List UInt8) (w : World) (hr : RdB w A n c bs) (hn : n ≤ 1000000) :
    Calls Tryd.prog 61 #[.slice A n c] w (KeyRet (shaSum bs) w) := by
  obtain ⟨i0, hi, hz0, hz1, hz2⟩ := info_parts u32info
  go_enter Tryd.func61, Tryd.ntmps61
  go_wp2_with (with_reducible change wpList _ _ _ (⟨_, Op.alloc _, _, _, _, _⟩ :: _) _ _; refine wpList_alloc_blk rfl 23 rfl _ zero32 ?_)
  intro w1 hR1 hk1 hs1
  go_wp2_with fail
  refine (rFilled_any A n c bs _ (hr.kept0 hk1) hn).mono ?_
  rintro e w2 ⟨v2, rfl, ho2, hk2, hf2⟩
  obtain ⟨A2, n2, c2, rfl, hr2, _⟩ := ho2.form
  have hR2 := hR1.kept0 hk2
  have hK2 := hk1.andThen hk2
  have hRlt := hR2.lt
  clear hR1 hk1 hk2 hf2 ho2 hr
  go_wp2
  go_loopw [4, 5] (fun v i wr => ∃ (k : Nat) (A3 : Option Addr) (c3 : Nat), k ≤ 8 ∧ i = .int .i64 k ∧ v = .slice A3 k c3 ∧ OwV 114 wr (.slice A3 k c3) (wvs (st0.l.take k)) ∧ Kept [] w2 wr ∧ Hid (∀ g, (Value.slice A3 k c3).ownBlock = some g → w2.heap.size ≤ g)) (fun _ i _ => 8 - (intOf i).toNat)
  case atStart => exact ⟨0, none, 0, by omega, rfl, rfl, OwV.nil _ _, Kept.refl _ _, Lib.hid (by simp [Value.ownBlock])⟩
  case round =>
    obtain ⟨k, A3, c3, hk, rfl, rfl, ho, hK, Hb⟩ := hrel
    by_cases hlt : k < 8
    · have hl : (wvs (st0.l.take k)).length = k := by rw [wvs_length, List.length_take]; show min k 8 = k; omega
      have hst : wvs (st0.l.take (k + 1)) = wvs (st0.l.take k) ++ [.int .u32 (wv (st0.l.getD k 0))] := by
        rw [take_step st0.l k (st0.l.getD k 0) (by rw [List.getElem?_eq_getElem hlt, List.getD_eq_getElem?_getD, List.getElem?_eq_getElem hlt]; rfl), wvs_append]
        rfl
      have Hl := Lib.hid hl
      have Hst := Lib.hid hst
      clear hl hst
      go_wp2_with fail
      refine (rBegins_any _).mono ?_
      rintro e w4 ⟨S, rfl, hS, rfl⟩
      have HS := Lib.hid hS
      clear hS
      go_wp2_with fail
      refine (rWord_any S st0.l k _ HS.out hlt (by show 8 ≤ 1000; omega)).mono ?_
      rintro e w5 ⟨rfl, rfl⟩
      go_wp2_with (at_builtin; refine wpList_append_vals rfl (.tmp 16) (.tmp 20) 113 rfl 114 i0 _ 4 Tryd.underlying113 hi hz0 hz1 hz2 rfl (.slice A3 k c3) _ rfl (ho.alloc _) _ 1 1 _ rfl (RdV.one wr _ _) (by simp [Value.oneCell']) (by rw [Hl.out]; simp only [maxLen]; omega) (by rw [Hl.out]; omega) ?_)
      intro v6 w6 ho6 hk6 hm6
      obtain ⟨hK6, hb6⟩ := app_new (hK.alloc _) Hb.out hk6 hm6
      obtain ⟨A4, n4, c4, rfl, hr4, _⟩ := ho6.form
      obtain rfl : k + 1 = n4 := by have := hr4.len; rw [List.length_append, Hl.out] at this; exact this
      have ho7 : OwV 114 w6 (.slice A4 (k + 1) c4) (wvs (st0.l.take (k + 1))) := by rw [Hst.out]; first | exact ho6 | simpa using ho6
      have Hb6 := Lib.hid hb6
      clear ho6 hr4 hb6 hk6 hm6 ho hK Hb HS
      go_wp2
      go_roundw
      case rel => exact ⟨k + 1, A4, c4, by omega, by go_num, rfl, ho7, hK6, Hb6⟩
      case measure => simp [intOf]; omega
    · obtain rfl : 8 = k := by omega
      have hs0 : RdV wr A3 8 c3 (wvs (run st0 []).l) := ho.rd
      have hr3 := hr2.kept0 hK
      have hl2 := hr2.len
      have hpl := padded_length bs
      have Hl2 := Lib.hid hl2
      have Hpl := Lib.hid hpl
      clear ho Hb hr2 hl2 hpl hlt hk
      go_wp2
      rw [show ((8 : Nat) : Int) = 8 from rfl]
      go_loopw [3, 4] (fun t s wq => ∃ (At : Option Addr) (r ct : Nat) (As : Option Addr) (cs : Nat) (dn rest : List UInt8), t = .slice At r ct ∧ s = .slice As 8 cs ∧ RdB wq At r ct rest ∧ Hid (padded bs = dn ++ rest ∧ dn.length % 64 = 0 ∧ rest.length % 64 = 0) ∧ RdV wq As 8 cs (wvs (run st0 dn).l) ∧ Kept [] w2 wq) (fun t _ _ => slen3 t)
      case atStart => exact ⟨A2, n2, c2, A3, c3, [], padded bs, rfl, rfl, hr3, Lib.hid ⟨rfl, rfl, Hpl.out⟩, hs0, hK⟩
      case round =>
        clear hs0 hr3 hK
        obtain ⟨At, r, ct, As, cs, dn, rest, rfl, rfl, ht, Hd, hs, hK⟩ := hrel
        have hrl := ht.len
        by_cases hpos : 0 < r
        · have h64 : 64 ≤ r := by have := Hd.out.2.2; omega
          have hcc := ht.cap
          have hcm := ht.most
          unfold maxLen at hcm
          obtain ⟨A5, r5, q5⟩ := ht.cutTo (P := Tryd.prog) 26 5 Tryd.underlying26 size1b 64 64 rfl h64
          obtain ⟨A6, r6, _, q6⟩ := ht.cutFrom (P := Tryd.prog) 26 5 Tryd.underlying26 size1b 64 64 rfl h64
          have hu : (rest.take 64).length = 64 := by rw [List.length_take]; omega
          have Hn : Hid (padded bs = (dn ++ rest.take 64) ++ rest.drop 64 ∧ (dn ++ rest.take 64).length % 64 = 0 ∧ (rest.drop 64).length % 64 = 0 ∧ run st0 (dn ++ rest.take 64) = mixB (run st0 dn) (rest.take 64)) := by
            obtain ⟨d1, d2, d3⟩ := Hd.out
            refine ⟨?_, ?_, ?_, run_step st0 dn _ d2 hu⟩
            · rw [List.append_assoc, List.take_append_drop]; exact d1
            · rw [List.length_append, hu]; omega
            · rw [List.length_drop]; omega
          have Hrl := Lib.hid hrl
          clear hu hrl ht
          go_wp2_with fail
          refine (rBehind_any As cs (run st0 dn) A5 ct _ _ hs r5).mono ?_
          rintro e w7 ⟨v7, rfl, ho7, hk7, hf7⟩
          obtain ⟨A7, n7, c7, rfl, hr7, _⟩ := ho7.form
          obtain rfl : 8 = n7 := hr7.len
          have r7 := r6.kept0 hk7
          have hK7 := hK.andThen hk7
          have hr8 : RdV w7 A7 8 c7 (wvs (run st0 (dn ++ rest.take 64)).l) := by rw [Hn.out.2.2.2]; exact hr7
          clear r5 r6 q5 hk7 hf7 ho7 hr7 hK hs
          go_wp2
          go_roundw
          case rel => exact ⟨A6, r - 64, ct - 64, A7, c7, dn ++ rest.take 64, rest.drop 64, rfl, rfl, r7, Lib.hid ⟨Hn.out.1, Hn.out.2.1, Hn.out.2.2.1⟩, hr8, hK7⟩
          case measure => simp [slen3]; omega
        · obtain rfl : 0 = r := by omega
          have hdn : dn = padded bs := by
            have : rest = [] := List.eq_nil_of_length_eq_zero hrl
            rw [Hd.out.1, this, List.append_nil]
          have Hdn := Lib.hid hdn
          obtain ⟨wz, rfl⟩ : ∃ wz, wz = wr := ⟨_, rfl⟩
          have hKw := hK2.andThen hK
          have hRz := hR2.kept0 hK
          generalize hst : run st0 dn = st at hs
          have Hsum : Hid (stBytes st = shaSum bs) := by show _ = _; rw [← hst, Hdn.out, shaSum_eq]
          clear hdn hst Hdn hrl Hd ht hpos
          go_wp2_with (first
            | (with_reducible change wpList _ _ _ (⟨_, Op.build _ _, _, _, _, _⟩ :: _) _ _; refine wpList_buildTo rfl 23 _ rfl _ rfl (zb 32).toArray (by simpa [Act.eval, Act.put] using builtKey) ?_)
            | (with_reducible change wpList _ _ _ (⟨_, Op.alloc _, _, _, _, _⟩ :: _) _ _; refine wpList_alloc_blk rfl 23 rfl _ zero32 ?_))
          intro w8 hG8 hk8 hs8
          go_wp2_with (with_reducible change wpList _ _ _ (⟨_, Op.store _ _ _, _, _, _, _⟩ :: _) _ _; refine wpList_store_blk rfl 23 (.tmp 6) (.tmp 31) rfl wz.heap.size (zb 32) rfl rfl 23 (zb 32) hG8 zb_size rfl zb_one ?_)
          intro w9 hG9 hk9 hs9
          have hK9 : Kept [] wz w9 := hk8.trans hk9 (by simp)
          have hR9 := hRz.kept0 hK9
          have hRz2 := hRz.lt
          have hG9' : Blk w9 wz.heap.size 23 (bvs (kb st.l 0)) := hG9
          obtain ⟨b, off, rfl, hblt, hcv⟩ := hs.at_ (by omega)
          have HV : Hid (∀ i, i < 8 → w9.cell? ⟨b, off + i, none⟩ = some (.int .u32 (wv (st.l.getD i 0)))) := fun i h8 => by
            rw [hK9.cell (p := ⟨b, off + i, none⟩) hblt (by simp), hcv i h8, ← wvs_get st.l i h8, List.getElem?_eq_getElem h8]
          have hcap := hs.cap
          have hb9 : b < w9.heap.size := Nat.lt_of_lt_of_le hblt hK9.size
          have hg9 := hG9'.lt
          have hKz := hKw.andThen hK9
          clear hcv hG8 hk8 hs8 hk9 hs9 hG9 hRz hs
          go_wp2
          go_loopw [7] (fun i wq => ∃ k : Nat, k ≤ 8 ∧ i = .int .i64 k ∧ Blk wq wz.heap.size 23 (bvs (kb st.l k)) ∧ Kept [wz.heap.size] w9 wq) (fun i _ => 8 - (intOf i).toNat)
          case atStart => exact ⟨0, by omega, rfl, hG9', Kept.refl _ _⟩
          case round =>
            clear hG9'
            obtain ⟨k, hk, rfl, hG, hKq⟩ := hrel
            by_cases hlt : k < 8
            · have x1 := (hKq.cell (p := ⟨b, off + k, none⟩) hb9 (fun hm => by have := List.mem_singleton.1 hm; simp at this; omega)).trans (HV.out k hlt)
              have Hstep := Lib.hid (kb_step st.l k rfl hlt)
              have Hkl := Lib.hid (kb_length st.l k rfl hk)
              generalize st.l.getD k 0 = y at x1 Hstep
              have y0 := wv_nonneg y
              have y1 := wv_lt y
              have hsz := hKq.size
              go_wp2_with fail
              refine (rfBytes_any (wv y) 4 _ y0 (by omega) (by omega)).mono ?_
              rintro e w10 ⟨v10, rfl, ho10, hk10, hf10⟩
              rw [show (wv y).toNat = y.toNat by rw [wv_eq]; simp] at ho10
              obtain ⟨A10, n10, c10, rfl, hr10, _⟩ := ho10.form
              obtain rfl : 4 = n10 := by have := hr10.len; rw [be_length] at this; exact this
              have hG10 := hG.kept0 hk10
              have hK10 : Kept [wz.heap.size] w9 w10 := hKq.andThen hk10
              have hoff : Off A10 [wz.heap.size] := fun a ha hm => by
                have h1 := hf10 a.block (by rw [ha]; rfl)
                have := List.mem_singleton.1 hm
                omega
              have hb4 := be_length 4 y.toNat
              have Hb4 := Lib.hid hb4
              have Hhoff := Lib.hid hoff
              clear hG hKq hk10 hf10 ho10 x1 hb4 hoff
              go_wp2
              go_loopw [9] (fun i wq => ∃ j : Nat, j ≤ 4 ∧ i = .int .i64 j ∧ Blk wq wz.heap.size 23 (splice (bvs (kb st.l k)) (4 * k) (bvs ((be 4 y.toNat).take j))) ∧ RdB wq A10 4 c10 (be 4 y.toNat) ∧ Kept [wz.heap.size] w9 wq) (fun i _ => 4 - (intOf i).toNat)
              case atStart => exact ⟨0, by omega, rfl, by simpa [bvs, splice_nil] using hG10, hr10, hK10⟩
              case round =>
                clear hG10 hr10 hK10
                obtain ⟨j, hj, rfl, hG, hrx, hKq⟩ := hrel
                by_cases hlt2 : j < 4
                · obtain ⟨bx, ox, yb, rfl, cx, hyx, hyl⟩ := hrx.byte hlt2
                  have hlen : (bvs ((be 4 y.toNat).take j)).length = j := by rw [bvs_length, List.length_take, Hb4.out]; omega
                  have hbl : (bvs (kb st.l k)).length = 32 := by rw [bvs_length, Hkl.out]
                  have hsl := length_splice (bvs (kb st.l k)) (4 * k) (bvs ((be 4 y.toNat).take j)) (by omega)
                  have c1 := hG.cellD (4 * k + j) (by omega)
                  generalize (splice (bvs (kb st.l k)) (4 * k) (bvs ((be 4 y.toNat).take j)))[4 * k + j]'(by omega) = u at c1
                  have f1 := hG.frz (4 * k + j)
                  have hnew := hG.set (4 * k + j) (bcell yb)
                  have hsn := splice_snoc (bvs (kb st.l k)) (4 * k) (bvs ((be 4 y.toNat).take j)) (bcell yb) (by omega)
                  rw [hlen] at hsn
                  rw [hsn] at hnew
                  have htk : bvs ((be 4 y.toNat).take j) ++ [bcell yb] = bvs ((be 4 y.toNat).take (j + 1)) := by
                    rw [take_step _ j _ hyx, bvs_append]; rfl
                  rw [htk] at hnew
                  have hkn : Kept [wz.heap.size] (wr) (wr.setCell ⟨wz.heap.size, 4 * k + j, none⟩ (bcell yb)) := (Kept.refl _ _).setCell (by simp) _
                  have hrn := hrx.kept hkn Hhoff.out
                  have hKn := hKq.trans hkn (fun i hi => .inl hi)
                  unfold bcell at hnew hkn hrn hKn
                  clear hlen hbl hsl hsn htk hG hrx hyx hkn hKq
                  go_wp2
                  go_roundw
                  case rel => exact ⟨j + 1, by omega, by go_num, hnew, hrn, hKn⟩
                  case measure => simp [intOf]; omega
                · obtain rfl : 4 = j := by omega
                  rw [List.take_of_length_le (by rw [Hb4.out]; omega), splice_bvs, Hstep.out] at hG
                  clear hrx
                  go_wp2
                  go_roundw
                  case rel => exact ⟨k + 1, by omega, by go_num, hG, hKq⟩
                  case measure => simp [intOf]; omega
            · obtain rfl : 8 = k := by omega
              rw [kb_all, Hsum.out] at hG
              have hR10 := hR9.kept hKq (fun hm => by have := List.mem_singleton.1 hm; omega)
              have hwl : (bvs (shaSum bs)).length = 32 := by rw [bvs_length]; exact shaSum_length bs
              have hone := bvs_one (shaSum bs)
              obtain ⟨X, hX⟩ : ∃ X, X = bvs (shaSum bs) := ⟨_, rfl⟩
              rw [← hX] at hG hwl hone
              have hi2 : (Tryd.prog.info? 23).map (·.size) = some X.length := by rw [hwl]; exact size32
              have hz : (zb 32).length = X.length := by rw [hwl, zb_length]
              have HX := Lib.hid hX
              have H1 := Lib.hid hone
              have H2 := Lib.hid hi2
              have H3 := Lib.hid hz
              clear hX hwl hone hi2 hz
              go_wp2_with (first
                | (with_reducible change wpList _ _ _ (⟨_, Op.load _ _, _, _, _, _⟩ :: _) _ _; refine wpList_load_blk rfl 23 (.tmp 6) rfl wz.heap.size rfl 23 X _ hG Tryd.underlying23 rfl H2.out ?_)
                | (with_reducible change wpList _ _ _ (⟨_, Op.store _ _ _, _, _, _, _⟩ :: _) _ _; refine wpList_store_blk rfl 23 (.tmp 2) (.tmp 55) rfl w.heap.size X rfl rfl 23 (zb 32) hR10 H2.out H3.out H1.out ?_))
              intro w20 hR20 hk20 hs20
              go_wp2
              refine bodyPost_ret (results_blk rfl _ w.heap.size 23 _ _ rfl hR20 Tryd.underlying23 rfl H2.out) rfl ?_
              exact ⟨by rw [HX.out], (hKz.trans hKq (fun i hi => .inr (by have := List.mem_singleton.1 hi; have := hKw.size; omega))).trans hk20 (by simp)⟩
end Go.Proofs.YtibcjbelcplpjaaDoor
/-
  Contract of the comparison of bytes. No statement of the seed is proved here.
-/
namespace Go.Proofs.YtibcjbelcplpjaaDoor
open Go.RowKit
set_option linter.unusedVariables false

theorem same_yes (A A' : Option Addr) (n c c' : Nat) (bs : List UInt8) (w : World) (ha : RdB w A n c bs) (hb : RdB w A' n c' bs) :
    Calls Tryd.prog 11 #[.slice A n c, .slice A' n c'] w fun e w' => e = .returned (.bool true) ∧ ∃ m, w' = w.drewN m := by
  have hm := ha.cap
  have hm2 := ha.most
  unfold maxLen at hm2
  go_enter Tryd.func11, Tryd.ntmps11
  go_wp2
  go_loopw [5] (fun i wr => ∃ (k m : Nat), k ≤ n ∧ i = .int .i64 k ∧ wr = w.drewN m) (fun i _ => n - (intOf i).toNat)
  case atStart => exact ⟨0, 0, by omega, rfl, rfl⟩
  case round =>
    obtain ⟨k, m, hk, rfl, rfl⟩ := hrel
    by_cases hlt : k < n
    · have hl := ha.len
      obtain ⟨b, off, rfl, hbl, hc⟩ := ha.at_ (by omega)
      obtain ⟨b', off', rfl, hbl', hc'⟩ := hb.at_ (by omega)
      have c1 := hc k (by omega)
      have c2 := hc' k (by omega)
      generalize bs[k] = x at c1 c2
      have H := Lib.hid hl
      clear hl hc hc'
      unfold bcell at c1 c2
      go_wp2
      go_quiet (fail)
      go_wp2
      go_roundw
      case rel => exact ⟨k + 1, m + nq, by omega, by go_num, rfl⟩
      case measure => simp [intOf]; omega
    · go_wp2
      go_ret
      exact ⟨rfl, m, rfl⟩
end Go.Proofs.YtibcjbelcplpjaaDoor
/-
  Contract of the document's own comparison of bytes. No statement of the seed is proved here.
-/
namespace Go.Proofs.YtibcjbelcplpjaaDoor
open Go.RowKit
set_option linter.unusedVariables false

theorem take_same {a b : List UInt8} {k : Nat} {x y : UInt8} (hx : a[k]? = some x) (hy : b[k]? = some y) : a.take (k + 1) = b.take (k + 1) ↔ a.take k = b.take k ∧ x = y := by
  have e1 : a.take (k + 1) = a.take k ++ [x] := by rw [List.take_add_one, hx]; rfl
  have e2 : b.take (k + 1) = b.take k ++ [y] := by rw [List.take_add_one, hy]; rfl
  rw [e1, e2]
  constructor
  · intro h
    have hl : (a.take k).length = (b.take k).length := by have := congrArg List.length h; simp only [List.length_append, List.length_singleton] at this; omega
    obtain ⟨h1, h2⟩ := List.append_inj h hl
    exact ⟨h1, by simpa using h2⟩
  · rintro ⟨h1, rfl⟩; rw [h1]
theorem xor_zero_iff (x y : UInt8) : x ^^^ y = 0 ↔ x = y := UInt8.xor_eq_zero_iff
theorem or_zero_iff (x y : UInt8) : x ||| y = 0 ↔ x = 0 ∧ y = 0 := UInt8.or_eq_zero_iff

theorem same_any (A A' : Option Addr) (n n' c c' : Nat) (xs bs : List UInt8) (w : World) (ha : RdB w A n c xs) (hb : RdB w A' n' c' bs) :
    Calls Tryd.prog 11 #[.slice A n c, .slice A' n' c'] w fun e w' => e = .returned (.bool (xs == bs)) ∧ ∃ m, w' = w.drewN m := by
  have hm := ha.cap
  have hm2 := ha.most
  have hm3 := hb.cap
  have hm4 := hb.most
  have hla := ha.len
  have hlb := hb.len
  unfold maxLen at hm2 hm4
  by_cases hne : n = n'
  · subst hne
    have HA := Lib.hid hla
    have HB := Lib.hid hlb
    clear hla hlb
    go_enter Tryd.func11, Tryd.ntmps11
    go_wp2
    go_loopw [5] (fun i wr => ∃ (k m : Nat), k ≤ n ∧ i = .int .i64 k ∧ wr = w.drewN m ∧ Hid (xs.take k = bs.take k)) (fun i _ => n - (intOf i).toNat)
    case atStart => exact ⟨0, 0, by omega, rfl, rfl, Lib.hid (by simp)⟩
    case round =>
      obtain ⟨k, m, hk, rfl, rfl, H⟩ := hrel
      by_cases hlt : k < n
      · obtain ⟨b, off, y, rfl, c1, g1, _⟩ := ha.byte hlt
        obtain ⟨b', off', z, rfl, c2, g2, _⟩ := hb.byte hlt
        have HT := Lib.hid (take_same g1 g2)
        by_cases hyz : y = z
        · subst hyz
          have H' : Hid (xs.take (k + 1) = bs.take (k + 1)) := Lib.hid (HT.out.2 ⟨H.out, rfl⟩)
          clear g1 g2 H HT
          go_wp2
          go_quiet (fail)
          go_wp2
          go_roundw
          case rel => exact ⟨k + 1, m + nq, by omega, by go_num, rfl, H'⟩
          case measure => simp [intOf]; omega
        · have hv : ((y.toNat : Int) != (z.toNat : Int)) = true := by
            have : y.toNat ≠ z.toNat := fun e => hyz (UInt8.toNat_inj.1 e)
            simp; omega
          have hab : (xs == bs) = false := by
            simp only [beq_eq_false_iff_ne, ne_eq]
            rintro rfl
            exact hyz (HT.out.1 rfl).2
          have HF := Lib.hid hab
          clear g1 g2 H HT hab hyz
          go_wp2
          go_quiet (fail)
          go_wp2
          go_ret
          exact ⟨ret_bool HF.out.symm, m + nq, by simp⟩
      · obtain rfl : n = k := by omega
        have hb0 : (xs == bs) = true := by
          have h1 := H.out
          rw [List.take_of_length_le (by have := HA.out; omega), List.take_of_length_le (by have := HB.out; omega)] at h1
          simp [h1]
        have HF := Lib.hid hb0
        clear H hb0
        go_wp2
        go_ret
        exact ⟨ret_bool HF.out.symm, m, rfl⟩
  · have hab : (xs == bs) = false := by
      simp only [beq_eq_false_iff_ne, ne_eq]
      rintro rfl; omega
    rw [hab]
    clear hla hlb hab
    go_enter Tryd.func11, Tryd.ntmps11
    go_wp2
    go_ret
    exact ⟨rfl, 0, rfl⟩
theorem same_k (A A' : Option Addr) (n n' c c' : Nat) (xs bs : List UInt8) (w : World) (ha : RdB w A n c xs) (hb : RdB w A' n' c' bs) :
    Calls Tryd.prog 11 #[.slice A n c, .slice A' n' c'] w fun e w' => e = .returned (.bool (xs == bs)) ∧ Kept [] w w' :=
  (same_any A A' n n' c c' xs bs w ha hb).mono fun e w' h => ⟨h.1, by obtain ⟨m, rfl⟩ := h.2; exact (Kept.refl [] w).drewN m⟩
end Go.Proofs.YtibcjbelcplpjaaDoor
/-
  Contracts of layer 3 (hmac): a key as the digest takes it, and each byte of it turned. No statement of the seed is proved here.
-/
namespace Go.Proofs.YtibcjbelcplpjaaDoor
open Go.RowKit
set_option linter.unusedVariables false

theorem zero64k : (Tryd.prog.info? 109).bind (·.zero) = some (.agg (zb 64).toArray) := by kernel_rfl
theorem arr64k : Tryd.prog.underlying 109 = some (.array 64 5) := by kernel_rfl
theorem size64k : (Tryd.prog.info? 109).map (·.size) = some 64 := by kernel_rfl
def mx (x : UInt8) (bs : List UInt8) (k : Nat) : List UInt8 := (bs.take k).map (· ^^^ x) ++ bs.drop k
theorem mx_zero (x : UInt8) (bs : List UInt8) : mx x bs 0 = bs := by simp [mx]
theorem mx_all (x : UInt8) (bs : List UInt8) (k : Nat) (h : bs.length ≤ k) : mx x bs k = hx x bs := by
  rw [hx_eq]; unfold mx; rw [List.take_of_length_le h, List.drop_eq_nil_of_le h, List.append_nil]
theorem mx_length (x : UInt8) (bs : List UInt8) (k : Nat) : (mx x bs k).length = bs.length := by simp [mx]; omega
theorem mx_get (x : UInt8) (bs : List UInt8) (k : Nat) (y : UInt8) (h : bs[k]? = some y) : (mx x bs k)[k]? = some y := by
  have hk := (List.getElem?_eq_some_iff.1 h).1
  unfold mx
  rw [List.getElem?_append_right (by simp; omega)]
  simp only [List.length_map, List.length_take, List.getElem?_drop]
  rw [show k + (k - min k bs.length) = k by omega, h]
theorem mx_step (x : UInt8) (bs : List UInt8) (k : Nat) (y : UInt8) (h : bs[k]? = some y) : (mx x bs k).set k (y ^^^ x) = mx x bs (k + 1) := by
  have hk := (List.getElem?_eq_some_iff.1 h).1
  have hd : bs.drop k = y :: bs.drop (k + 1) := by
    rw [List.drop_eq_getElem_cons hk]
    congr 1
    exact (List.getElem?_eq_some_iff.1 h).2
  unfold mx
  rw [List.set_append_right _ _ (by simp; omega), hd, List.take_add_one, h]
  simp only [List.length_map, List.length_take, List.map_append, List.append_assoc]
  rw [show k - min k bs.length = 0 by omega]
  rfl

set_option maxRecDepth 100000 in
set_option maxHeartbeats 1000000 in
theorem mixed_any (bs : List UInt8) (x : UInt8) (z : Int) (w : World) (hz : z = (x.toNat : Int)) (hl : bs.length = 64) :
    Calls Tryd.prog 71 #[.agg (bvs bs).toArray, .int .u8 z] w (KeyRet (hx x bs) w) := by
  have hB := Blk.new w 109 (bvs bs)
  have hK1 : Kept [] w (w.alloc (.cells (bvs bs).toArray 109)) := (Kept.refl [] w).alloc _
  have hs1 : (w.alloc (.cells (bvs bs).toArray 109)).heap.size = w.heap.size + 1 := by simp
  go_enter Tryd.func71, Tryd.ntmps71
  go_wp2_with (first
    | (with_reducible change wpList _ _ _ (⟨_, Op.box _ _, _, _, _, _⟩ :: _) _ _; refine Great.wpList_boxTo rfl 109 _ rfl _ rfl w.heap.size rfl (bvs bs).toArray rfl ?_; generalize w.alloc (.cells (bvs bs).toArray 109) = w1 at *)
    | (with_reducible change wpList _ _ _ (⟨_, Op.alloc _, _, _, _, _⟩ :: _) _ _; refine wpList_alloc_blk rfl 109 rfl _ zero64k ?_))
  intro w2 hR2 hk2 hs2
  have hB2 := hB.kept0 hk2
  have hK2 := hK1.andThen hk2
  obtain ⟨g, hg⟩ : ∃ g, g = w.heap.size := ⟨_, rfl⟩
  obtain ⟨r, hr⟩ : ∃ r, r = w.heap.size + 1 := ⟨_, rfl⟩
  have Hl := Lib.hid hl
  rw [← hr] at hR2 ⊢
  rw [← hg] at hB2 ⊢
  have hrg : r ≠ g := by omega
  have hgw : w.heap.size ≤ g := by omega
  have hrw : w.heap.size ≤ r := by omega
  clear hB hK1 hs1 hk2 hs2 hl hg hr
  go_wp2
  go_loopw [6] (fun i wr => ∃ k : Nat, k ≤ 64 ∧ i = .int .i64 k ∧ Blk wr g 109 (bvs (mx x bs k)) ∧ Blk wr r 109 (zb 64) ∧ Kept [] w wr) (fun i _ => 64 - (intOf i).toNat)
  case atStart => exact ⟨0, by omega, rfl, by rw [mx_zero]; exact hB2, hR2, hK2⟩
  case round =>
    obtain ⟨k, hk, rfl, hB3, hR3, hK3⟩ := hrel
    clear hB2 hR2 hK2
    by_cases hlt : k < 64
    · obtain ⟨y, hy⟩ : ∃ y, bs[k]? = some y := ⟨bs[k]'(by have := Hl.out; omega), List.getElem?_eq_getElem _⟩
      have c1 : wr.cell? ⟨g, k, none⟩ = some (.int .u8 (y.toNat : Int)) := by
        rw [hB3.cell, bvs, List.getElem?_map, mx_get x bs k y hy]; rfl
      have f1 := hB3.frz k
      have hS : Blk (wr.setCell ⟨g, k, none⟩ (bcell (y ^^^ x))) g 109 (bvs (mx x bs (k + 1))) := by
        refine (hB3.set k _).of_eq ?_
        rw [← mx_step x bs k y hy, bvs, bvs, List.map_set]
      have hS2 : Blk (wr.setCell ⟨g, k, none⟩ (bcell (y ^^^ x))) r 109 (zb 64) := hR3.set_other k _ hrg
      have hS3 : Kept [] w (wr.setCell ⟨g, k, none⟩ (bcell (y ^^^ x))) := hK3.setCell (by right; show w.heap.size ≤ g; omega) _
      have hv : bcell (y ^^^ x) = .int .u8 (bits .xor .u8 (y.toNat : Int) (x.toNat : Int)) := by rw [bits_xorB]; rfl
      rw [hv] at hS hS2 hS3
      subst hz
      clear hB3 hR3 hK3 hy hv
      go_wp2
      go_roundw
      case rel => exact ⟨k + 1, by omega, by go_num, hS, hS2, hS3⟩
      case measure => simp [intOf]; omega
    · obtain rfl : k = 64 := by omega
      have e := mx_all x bs 64 (by have := Hl.out; omega)
      have h64 : (hx x bs).length = 64 := by rw [hx_length]; exact Hl.out
      rw [e] at hB3
      clear e
      go_wp2_with (with_reducible change wpList _ _ _ (⟨_, Op.load _ _, _, _, _, _⟩ :: _) _ _; refine wpList_load_blk rfl 109 (.tmp 2) rfl g rfl 109 _ _ hB3 arr64k rfl (size_of_len size64k h64) ?_; refine wpList_store_blk rfl 109 (.tmp 4) (.tmp 16) rfl r _ rfl rfl 109 (zb 64) hR3 (size_of_len size64k h64) (zb_len h64) (bvs_one _) ?_)
      intro w6 hR6 hk6 hs6
      go_wp2
      refine bodyPost_ret (results_blk rfl _ r 109 _ _ rfl hR6 arr64k rfl (size_of_len size64k h64)) rfl ?_
      exact ⟨rfl, hK3.trans hk6 (by simp; omega)⟩

theorem splice_pad (l : List UInt8) (h : l.length ≤ 64) : splice (zb 64) 0 (bvs l) = bvs (hpad l) := by
  unfold splice zb hpad
  rw [List.take_zero, List.nil_append, bvs_append, bvs_length, Nat.zero_add, bvs_zeros, bvs_zeros, List.drop_replicate]

set_option maxRecDepth 100000 in
set_option maxHeartbeats 1000000 in
theorem filled_any (A : Option Addr) (n c : Nat) (key : List UInt8) (w : World) (hr : RdB w A n c key) (hgl : Glob w) (hL : n < 1099511600000) :
    Calls Tryd.prog 70 #[.slice A n c] w (KeyRet (hkey key) w) := by
  have hl := hr.len
  have h64 := hkey_length key
  have hcutB := fun g => run_cut_all (P := Tryd.prog) 109 5 64 g 0 arr64k size1b (by omega)
  have hcutK := fun g => run_cut_all (P := Tryd.prog) 23 5 32 g 0 arr32b size1b (by omega)
  by_cases hbig : 64 < n
  · have hd := shaSum_length key
    have hk := hkey_long (key := key) (by omega)
    have hp := splice_pad (shaSum key) (by omega)
    rw [← hk] at hp
    have hp2 : splice (zb 64) 0 (bvs ((shaSum key).take 32)) = bvs (hkey key) := by rw [List.take_of_length_le (by omega)]; exact hp
    have H2 := Lib.hid hp2
    clear hp hk hp2
    go_enter Tryd.func70, Tryd.ntmps70
    go_wp2_with (with_reducible change wpList _ _ _ (⟨_, Op.alloc _, _, _, _, _⟩ :: _) _ _; refine wpList_alloc_blk rfl 109 rfl _ zero64k ?_)
    intro w1 hR1 hk1 hs1
    go_wp2_with (with_reducible change wpList _ _ _ (⟨_, Op.alloc _, _, _, _, _⟩ :: _) _ _; refine wpList_alloc_blk rfl 109 rfl _ zero64k ?_)
    intro w2 hB2 hk2 hs2
    obtain ⟨g2, hg2⟩ : ∃ g2, g2 = w.heap.size := ⟨_, rfl⟩
    obtain ⟨g3, hg3⟩ : ∃ g3, g3 = w.heap.size + 1 := ⟨_, rfl⟩
    rw [← hg3] at hB2 ⊢
    rw [← hg2] at hR1 ⊢
    have hK2 := hk1.andThen hk2
    have hR2 := hR1.kept0 hk2
    have hg23 : g2 ≠ g3 := by omega
    have hw2 : w.heap.size ≤ g2 := by omega
    have hw3 : w.heap.size ≤ g3 := by omega
    have h3lt := hB2.lt
    have h2lt := hR2.lt
    clear hs1 hs2 hg2 hg3
    go_wp2_with fail
    refine (sum_any A n c key _ (hr.kept0 hK2) (hgl.kept0 hK2) hL).mono ?_
    rintro e w3 ⟨rfl, hk3⟩
    have hK3 := hK2.andThen hk3
    have hR3 := hR2.kept0 hk3
    have hB3 := hB2.kept0 hk3
    have hsz3 := hk3.size
    clear hR1 hk1 hk2 hR2 hK2 hB2
    go_wp2_with (with_reducible change wpList _ _ _ (⟨_, Op.alloc _, _, _, _, _⟩ :: _) _ _; refine wpList_alloc_blk rfl 23 rfl _ zero32 ?_)
    intro w4 hD4 hk4 hs4
    obtain ⟨g4, hg4⟩ : ∃ g4, g4 = w3.heap.size := ⟨_, rfl⟩
    rw [← hg4] at hD4 ⊢
    have hg42 : g2 ≠ g4 := by have := hk3.size; omega
    have hg43 : g3 ≠ g4 := by have := hk3.size; omega
    have hw4 : w.heap.size ≤ g4 := by have := hK3.size; omega
    clear hs4 hg4 hsz3
    go_wp2_with (with_reducible change wpList _ _ _ (⟨_, Op.store _ _ _, _, _, _, _⟩ :: _) _ _; refine wpList_store_blk rfl 23 (.tmp 4) (.tmp 9) rfl g4 (bvs (shaSum key)) rfl rfl 23 (zb 32) hD4 (key_size _) (key_zb _) (bvs_one _) ?_)
    intro w5 hD5 hk5 hs5
    have hne2 : g2 ∉ [g4] := by simp; omega
    have hne3 : g3 ∉ [g4] := by simp; omega
    have hR5 := (hR3.kept0 hk4).kept hk5 hne2
    have hB5 := (hB3.kept0 hk4).kept hk5 hne3
    have hK5 : Kept [] w w5 := (hK3.andThen hk4).trans hk5 (by have := hK3.size; simp; omega)
    have hS5 := hD5.all 32 hd (by omega)
    clear hR3 hB3 hD4 hk4 hk5 hK3
    go_wp2_with (with_reducible change wpList _ _ _ (⟨_, Op.call _, _, _, _, _⟩ :: _) _ _; refine wpList_copy_blk rfl (.tmp 11) (.tmp 12) 26 rfl 5 Tryd.underlying26 size1b g3 0 64 64 _ 32 32 _ rfl rfl hS5 (by omega) 109 _ hB5 32 rfl (by simp [zb, bvs]) ?_)
    intro w6 hB6 hk6
    rw [H2.out] at hB6
    have hne6 : g2 ∉ [g3] := by simp; omega
    have hR6 := hR5.kept hk6 hne6
    have hK6 : Kept [] w w6 := hK5.trans hk6 (by simp; omega)
    clear hR5 hB5 hK5 hS5 hk6 hD5
    go_wp2_with (with_reducible change wpList _ _ _ (⟨_, Op.load _ _, _, _, _, _⟩ :: _) _ _; refine wpList_load_blk rfl 109 (.tmp 3) rfl g3 rfl 109 _ _ hB6 arr64k rfl (size_of_len size64k h64) ?_; refine wpList_store_blk rfl 109 (.tmp 2) (.tmp 14) rfl g2 _ rfl rfl 109 (zb 64) hR6 (size_of_len size64k h64) (zb_len h64) (bvs_one _) ?_)
    intro w7 hR7 hk7 hs7
    go_wp2
    refine bodyPost_ret (results_blk rfl _ g2 109 _ _ rfl hR7 arr64k rfl (size_of_len size64k h64)) rfl ?_
    exact ⟨rfl, hK6.trans hk7 (by simp; omega)⟩
  · have hk := hkey_short (key := key) (by omega)
    have hp := splice_pad key (by omega)
    rw [← hk] at hp
    have hp2 : splice (zb 64) 0 (bvs (key.take n)) = bvs (hkey key) := by rw [List.take_of_length_le (by omega)]; exact hp
    have H2 := Lib.hid hp2
    have H0 : Hid (n = 0 → zb 64 = bvs (hkey key)) := Lib.hid (fun h0 => by
      have : key = [] := List.eq_nil_of_length_eq_zero (by omega)
      subst this
      rw [← hp]; rfl)
    have Hl := Lib.hid hl
    clear hp hk hp2 hl
    go_enter Tryd.func70, Tryd.ntmps70
    go_wp2_with (with_reducible change wpList _ _ _ (⟨_, Op.alloc _, _, _, _, _⟩ :: _) _ _; refine wpList_alloc_blk rfl 109 rfl _ zero64k ?_)
    intro w1 hR1 hk1 hs1
    go_wp2_with (with_reducible change wpList _ _ _ (⟨_, Op.alloc _, _, _, _, _⟩ :: _) _ _; refine wpList_alloc_blk rfl 109 rfl _ zero64k ?_)
    intro w2 hB2 hk2 hs2
    obtain ⟨g2, hg2⟩ : ∃ g2, g2 = w.heap.size := ⟨_, rfl⟩
    obtain ⟨g3, hg3⟩ : ∃ g3, g3 = w.heap.size + 1 := ⟨_, rfl⟩
    rw [← hg3] at hB2 ⊢
    rw [← hg2] at hR1 ⊢
    have hK2 := hk1.andThen hk2
    have hR2 := hR1.kept0 hk2
    have hg23 : g2 ≠ g3 := by omega
    have hw2 : w.heap.size ≤ g2 := by omega
    have hw3 : w.heap.size ≤ g3 := by omega
    have h3lt := hB2.lt
    have h2lt := hR2.lt
    clear hs1 hs2 hg2 hg3
    have hr2 := hr.kept0 hK2
    clear hR1 hk1 hk2 hr
    rcases Nat.eq_zero_or_pos n with h0 | h0
    · subst h0
      have e0 := H0.out rfl
      have hB6 := hB2.of_eq e0
      clear hB2 e0
      go_wp2_with (first
        | (with_reducible change wpList _ _ _ (⟨_, Op.call _, _, _, _, _⟩ :: _) _ _; refine wpList_copy_nothing rfl (.tmp 11) (.tmp 12) 26 26 rfl 5 Tryd.underlying26 size1b _ _ _ _ _ _ rfl rfl rfl ?_)
        | (with_reducible change wpList _ _ _ (⟨_, Op.load _ _, _, _, _, _⟩ :: _) _ _; refine wpList_load_blk rfl 109 (.tmp 3) rfl g3 rfl 109 _ _ hB6 arr64k rfl (size_of_len size64k h64) ?_; refine wpList_store_blk rfl 109 (.tmp 2) (.tmp 14) rfl g2 _ rfl rfl 109 (zb 64) hR2 (size_of_len size64k h64) (zb_len h64) (bvs_one _) ?_))
      intro w7 hR7 hk7 hs7
      go_wp2
      refine bodyPost_ret (results_blk rfl _ g2 109 _ _ rfl hR7 arr64k rfl (size_of_len size64k h64)) rfl ?_
      exact ⟨rfl, hK2.trans hk7 (by simp; omega)⟩
    · go_wp2_with (with_reducible change wpList _ _ _ (⟨_, Op.call _, _, _, _, _⟩ :: _) _ _; refine wpList_copy_blk rfl (.tmp 11) (.tmp 12) 26 rfl 5 Tryd.underlying26 size1b g3 0 64 64 A n c key rfl rfl hr2 h0 109 _ hB2 n (by omega) (by simp [zb, bvs]; omega) ?_)
      intro w6 hB6 hk6
      rw [H2.out] at hB6
      have hne6 : g2 ∉ [g3] := by simp; omega
      have hR6 := hR2.kept hk6 hne6
      have hK6 : Kept [] w w6 := hK2.trans hk6 (by simp; omega)
      clear hR2 hB2 hK2 hr2 hk6
      go_wp2_with (with_reducible change wpList _ _ _ (⟨_, Op.load _ _, _, _, _, _⟩ :: _) _ _; refine wpList_load_blk rfl 109 (.tmp 3) rfl g3 rfl 109 _ _ hB6 arr64k rfl (size_of_len size64k h64) ?_; refine wpList_store_blk rfl 109 (.tmp 2) (.tmp 14) rfl g2 _ rfl rfl 109 (zb 64) hR6 (size_of_len size64k h64) (zb_len h64) (bvs_one _) ?_)
      intro w7 hR7 hk7 hs7
      go_wp2
      refine bodyPost_ret (results_blk rfl _ g2 109 _ _ rfl hR7 arr64k rfl (size_of_len size64k h64)) rfl ?_
      exact ⟨rfl, hK6.trans hk7 (by simp; omega)⟩
end Go.Proofs.YtibcjbelcplpjaaDoor
/-
  Contract of Sums, layer 2 (sha). No statement of the seed is proved here.
-/
namespace Go.Proofs.YtibcjbelcplpjaaDoor
open Go.RowKit
set_option linter.unusedVariables false

theorem sums_any (A : Option Addr) (n c : Nat) (ls : List (List UInt8)) (w : World) (hr : RdL w A n c ls) (hgl : Glob w) (hL : ls.flatten.length < 1099511600000) :
    Calls Tryd.prog 72 #[.slice A n c] w (KeyRet (shaSum ls.flatten) w) := by
  go_enter Tryd.func72, Tryd.ntmps72
  go_wp2_with (with_reducible change wpList _ _ _ (⟨_, Op.alloc _, _, _, _, _⟩ :: _) _ _; refine wpList_alloc_blk rfl 23 rfl _ zero32 ?_)
  intro w1 hR1 hk1 hs1
  go_wp2_with fail
  refine (digest_any A n c ls _ (hr.kept0 hk1) (hgl.kept0 hk1) hL).mono ?_
  rintro e w2 ⟨rfl, hk2⟩
  have hR2 := hR1.kept0 hk2
  go_wp2_with (with_reducible change wpList _ _ _ (⟨_, Op.store _ _ _, _, _, _, _⟩ :: _) _ _; refine wpList_store_blk rfl 23 (.tmp 2) (.tmp 4) rfl w.heap.size (bvs (shaSum ls.flatten)) rfl rfl 23 (zb 32) hR2 (key_size _) (key_zb _) (bvs_one _) ?_)
  intro w6 hR6 hk6 hs6
  go_wp2
  refine bodyPost_ret (results_blk rfl _ w.heap.size 23 _ _ rfl hR6 Tryd.underlying23 rfl (key_size _)) rfl ?_
  exact ⟨rfl, (hk1.andThen hk2).trans hk6 (by simp)⟩

end Go.Proofs.YtibcjbelcplpjaaDoor
/-
  A region whose operations come in any order that its edges allow: a law by an invariant over what has been done. Nothing of the program here.
-/
namespace Go.Proofs.YtibcjbelcplpjaaDoor
open Go
set_option linter.unusedVariables false
section
variable {P : Program} {ops : Array Oper} {Q : Exit → Act → World → Prop}

theorem oper_wp_then {o : Oper} {a : Act} {w : World} {K : Act → World → Prop} (h : o.wp P a w (fun a w => Exit.then K Q .normal a w) (Exit.then K Q)) : o.wp P a w K Q := by
  unfold Oper.wp at *
  generalize (execOp a.eval o).run P w = r at *
  cases r with
  | ok n w' =>
    cases n <;> simp only [Oper.upon] at h ⊢ <;>
      first
        | exact h
        | exact Calls.mono h (fun e w'' he => by cases e <;> exact he)
        | exact Rows.mono h (fun _ _ he => he)
  | halt x w' => cases x <;> simp only [Oper.upon] at h ⊢ <;> exact h

theorem wpOp_of_list {i : Nat} {o : Oper} {a : Act} {w : World} {K : Act → World → Prop} (ho : ops[i]? = some o) (h : wpList P ops (Exit.then K Q) [o] a w) : wpOp P ops Q i K a w := by
  unfold wpOp
  simp only [ho]
  unfold wpList at h
  split
  · rename_i hw
    rw [if_pos hw] at h
    rcases h with h | ⟨h1, h2⟩
    · exact .inl (oper_wp_then h)
    · exact .inr ⟨h1, h2⟩
  · rename_i hw
    rw [if_neg hw] at h
    exact h

def left (f : Nat → Bool) : Nat → Nat
  | 0 => 0
  | n + 1 => left f n + (if f n then 0 else 1)
theorem left_le (f g : Nat → Bool) (h : ∀ i, f i = true → g i = true) : ∀ n, left g n ≤ left f n
  | 0 => Nat.le_refl _
  | n + 1 => by
    have ih := left_le f g h n
    unfold left
    cases hf : f n
    · split <;> simp <;> omega
    · rw [h n hf]; simpa using ih
theorem left_lt (f g : Nat → Bool) (h : ∀ i, f i = true → g i = true) (i : Nat) (h1 : f i = false) (h2 : g i = true) : ∀ n, i < n → left g n < left f n
  | 0, hi => absurd hi (by omega)
  | n + 1, hi => by
    by_cases hn : i = n
    · subst hn
      have := left_le f g h i
      unfold left
      rw [h1, h2]
      simp
      omega
    · have ih := left_lt f g h i h1 h2 n (by omega)
      have h3 : (if g n then 0 else 1) ≤ (if f n then 0 else 1) := by
        cases hf : f n
        · split <;> simp
        · rw [h n hf]; simp
      unfold left
      omega

theorem ready_mem {md : Region.Mode} {listed : Array Bool} {i : Nat} (h : i ∈ Region.ready md ops listed) : i < ops.size ∧ listed.getD i true = false := by
  unfold Region.ready at h
  simp only [List.mem_filter, List.mem_range, Bool.and_eq_true, Bool.not_eq_true'] at h
  exact ⟨h.1, h.2.1⟩
theorem getD_set (listed : Array Bool) (i j : Nat) (h : listed.getD j true = true) : (listed.setIfInBounds i true).getD j true = true := by
  simp only [Array.getD_eq_getD_getElem?, Array.getElem?_setIfInBounds] at *
  split
  · split <;> simp
  · exact h
theorem getD_set_self (listed : Array Bool) (i : Nat) : (listed.setIfInBounds i true).getD i true = true := by
  simp only [Array.getD_eq_getD_getElem?, Array.getElem?_setIfInBounds]
  by_cases h : i < listed.size <;> simp [h]
theorem left_zero (f : Nat → Bool) : ∀ n, left f n = 0 → ∀ i, i < n → f i = true
  | 0, _, i, hi => absurd hi (by omega)
  | n + 1, h, i, hi => by
    unfold left at h
    by_cases hn : i = n
    · subst hn
      cases hf : f i
      · rw [hf] at h; simp at h
      · rfl
    · exact left_zero f n (by omega) i (by omega)

theorem wpAny_inv {md : Region.Mode} (I : Array Bool → Act → World → Prop)
    (hstep : ∀ (listed : Array Bool) (a : Act) (w : World), I listed a w → ∀ (i : Nat) (o : Oper), ops[i]? = some o → i ∈ Region.ready md ops listed → wpList P ops (Exit.then (I (listed.setIfInBounds i true)) Q) [o] a w)
    (hend : ∀ (listed : Array Bool) (a : Act) (w : World), Region.ready md ops listed = [] → I listed a w → Q .normal a w) :
    ∀ (fuel : Nat) (listed : Array Bool) (a : Act) (w : World), left (fun i => listed.getD i true) ops.size ≤ fuel → I listed a w → wpAny P md ops Q fuel listed a w
  | 0, listed, a, w, hf, hI => by
    have hr : Region.ready md ops listed = [] := by
      cases hc : Region.ready md ops listed with
      | nil => rfl
      | cons x xs =>
        have hm := ready_mem (ops := ops) (md := md) (listed := listed) (i := x) (by rw [hc]; simp)
        have := left_zero (fun i => listed.getD i true) ops.size (by omega) x hm.1
        simp only [hm.2] at this
        cases this
    exact ⟨hr, hend listed a w hr hI⟩
  | fuel + 1, listed, a, w, hf, hI => by
    refine ⟨fun hr => hend listed a w hr hI, fun i hi => ?_⟩
    have hm := ready_mem hi
    obtain ⟨o, ho⟩ : ∃ o, ops[i]? = some o := ⟨ops[i]'hm.1, Array.getElem?_eq_getElem hm.1⟩
    refine wpOp_mono (fun a' w' h => ?_) (wpOp_of_list ho (hstep listed a w hI i o ho hi))
    refine wpAny_inv I hstep hend fuel _ a' w' ?_ h
    have := left_lt (fun i => listed.getD i true) (fun j => (listed.setIfInBounds i true).getD j true) (fun j hj => getD_set listed i j hj) i hm.2 (getD_set_self listed i) ops.size hm.1
    omega

theorem wp_region_inv {id : Nat} {a : Act} {w : World} (hm : P.follows .mixedOrders = true) (I : Array Bool → Act → World → Prop)
    (h0 : I (Array.replicate ops.size false) a w.drew)
    (hstep : ∀ (listed : Array Bool) (a : Act) (w : World), I listed a w → ∀ (i : Nat) (o : Oper), ops[i]? = some o → i ∈ Region.ready .any ops listed → wpList P ops (Exit.then (I (listed.setIfInBounds i true)) Q) [o] a w)
    (hend : ∀ (listed : Array Bool) (a : Act) (w : World), Region.ready .any ops listed = [] → I listed a w → Q .normal a w) : (Code.region id ops true).wp P Q a w := by
  refine wp_region_any hm (wpAny_inv I hstep hend ops.size _ a _ ?_ h0)
  have : ∀ (f : Nat → Bool) n, left f n ≤ n := by
    intro f n
    induction n with
    | zero => exact Nat.le_refl _
    | succ n ih => unfold left; split <;> omega
  exact this _ _
end
end Go.Proofs.YtibcjbelcplpjaaDoor
/-
  Contracts of layer 3 (hmac): the tag of parts, and Tag. No statement of the seed is proved here.
-/
namespace Go.Proofs.YtibcjbelcplpjaaDoor
open Go.RowKit
set_option linter.unusedVariables false

abbrev ptr (g : Nat) : Value := .pointer (some ⟨g, 0, none⟩)
/-- What holds while both turned keys are made, whatever was made first. -/
def TagI (A A' : Option Addr) (n c n' c' : Nat) (key : List UInt8) (g4 g5 : Nat) (w5 : World) (listed : Array Bool) (a : Act) (w : World) : Prop :=
  ∃ (b0 b1 b2 b3 b4 b5 b6 b7 : Bool) (v6 v7 v11 v12 v13 v14 : Value), listed = #[b0, b1, b2, b3, b4, b5, b6, b7] ∧
    a = { tmps := #[.slice A n c, .slice A' n' c', undef, undef, ptr g4, ptr g5, v6, v7, undef, .slice A n c, .agg (bvs (hkey key)).toArray, v11, v12, v13, v14, undef, undef, undef, undef, undef, undef, undef, undef, undef], defers := [] } ∧
    (b0 = true → v11 = .agg (bvs (hkey key)).toArray) ∧ (b1 = true → v12 = .agg (bvs (hx 54 (hkey key))).toArray) ∧
    (b2 = true → v13 = .agg (bvs (hkey key)).toArray) ∧ (b3 = true → v14 = .agg (bvs (hx 92 (hkey key))).toArray) ∧
    (b4 = true → ∃ g, v6 = ptr g ∧ w5.heap.size ≤ g ∧ Blk w g 109 (if b6 then bvs (hx 54 (hkey key)) else zb 64)) ∧
    (b5 = true → ∃ g, v7 = ptr g ∧ w5.heap.size ≤ g ∧ Blk w g 109 (if b7 then bvs (hx 92 (hkey key)) else zb 64)) ∧
    (b6 = true → b4 = true) ∧ (b7 = true → b5 = true) ∧ (b4 = true → b5 = true → v6 ≠ v7) ∧ Kept [] w5 w

set_option maxRecDepth 100000 in
set_option maxHeartbeats 4000000 in
theorem tag_any (A A' : Option Addr) (n c n' c' : Nat) (key : List UInt8) (ls : List (List UInt8)) (w : World) (hr : RdB w A n c key) (hp : RdL w A' n' c' ls) (hgl : Glob w) (hL : n < 1099511600000) (hM : ls.flatten.length < 1099511000000) (hn : n' < 1000000000) :
    Calls Tryd.prog 60 #[.slice A n c, .slice A' n' c'] w (KeyRet (hTag key ls.flatten) w) := by
  have h64 := hkey_length key
  go_enter Tryd.func60, Tryd.ntmps60
  go_wp2_with (with_reducible change wpList _ _ _ (⟨_, Op.alloc _, _, _, _, _⟩ :: _) _ _; refine wpList_alloc_blk rfl 23 rfl _ zero32 ?_)
  intro w1 hR1 hk1 hs1
  obtain ⟨g4, hg4⟩ : ∃ g4, g4 = w.heap.size := ⟨_, rfl⟩
  rw [← hg4] at hR1 ⊢
  have hw4 : w.heap.size ≤ g4 := by omega
  clear hs1 hg4
  go_wp2_with fail
  refine (filled_any A n c key _ (hr.kept0 hk1) (hgl.kept0 hk1) hL).mono ?_
  rintro e w2 ⟨rfl, hk2⟩
  have hK2 := hk1.andThen hk2
  have hR2 := hR1.kept0 hk2
  clear hk1 hk2 hR1
  go_wp2_with (with_reducible change wpList _ _ _ (⟨_, Op.alloc _, _, _, _, _⟩ :: _) _ _; refine wpList_alloc_blk rfl 109 rfl _ zero64k ?_)
  intro w3 hB3 hk3 hs3
  obtain ⟨g5, hg5⟩ : ∃ g5, g5 = w2.heap.size := ⟨_, rfl⟩
  rw [← hg5] at hB3 ⊢
  have hw5 : w.heap.size ≤ g5 := by have := hK2.size; omega
  have h45 : g4 ≠ g5 := by have := hR2.lt; omega
  clear hs3 hg5
  go_wp2_with (with_reducible change wpList _ _ _ (⟨_, Op.store _ _ _, _, _, _, _⟩ :: _) _ _; refine wpList_store_blk rfl 109 (.tmp 5) (.tmp 10) rfl g5 (bvs (hkey key)) rfl rfl 109 (zb 64) hB3 (size_of_len size64k h64) (zb_len h64) (bvs_one _) ?_)
  intro w5 hB5 hk5 hs5
  have hK5 : Kept [] w w5 := (hK2.andThen hk3).trans hk5 (by simp; omega)
  have hR5 := (hR2.kept0 hk3).kept hk5 (by simp; exact h45)
  clear hK2 hR2 hB3 hk3 hk5 hs5
  go_upto_region 2 with fail
  have hm : Tryd.prog.follows .mixedOrders = true := by kernel_rfl
  refine wp_region_inv hm (TagI A A' n c n' c' key g4 g5 w5) ?_ ?_ ?_
  · exact ⟨false, false, false, false, false, false, false, false, undef, undef, undef, undef, undef, undef, rfl, rfl, by simp, by simp, by simp, by simp, by simp, by simp, by simp, by simp, by simp, (Kept.refl [] w5).drew⟩
  · rintro listed a wc ⟨b0, b1, b2, b3, b4, b5, b6, b7, v6, v7, v11, v12, v13, v14, rfl, rfl, i0, i1, i2, i3, i4, i5, i6, i7, i8, hK⟩ i o ho hi
    have hlt := (ready_mem hi).1
    have hi8 : i = 0 ∨ i = 1 ∨ i = 2 ∨ i = 3 ∨ i = 4 ∨ i = 5 ∨ i = 6 ∨ i = 7 := by simp at hlt; omega
    rcases hi8 with rfl | rfl | rfl | rfl | rfl | rfl | rfl | rfl
    · cases ho
      refine wpList_load_blk rfl 109 (.tmp 5) rfl g5 rfl 109 _ _ (hB5.kept0 hK) arr64k rfl (size_of_len size64k h64) ?_
      exact ⟨true, b1, b2, b3, b4, b5, b6, b7, v6, v7, _, v12, v13, v14, rfl, rfl, fun _ => rfl, i1, i2, i3, i4, i5, i6, i7, i8, hK⟩
    · have hb0 : b0 = true := by clear ho i0 i1 i2 i3 i4 i5 i6 i7 i8 hlt; revert b0 b1 b2 b3 b4 b5 b6 b7; decide +kernel
      obtain rfl := i0 hb0
      cases ho
      go_wp2_with fail
      refine (mixed_any (hkey key) 54 _ _ rfl h64).mono ?_
      rintro e w6 ⟨rfl, hk6⟩
      go_wp2
      exact ⟨b0, true, b2, b3, b4, b5, b6, b7, v6, v7, _, _, v13, v14, rfl, rfl, fun _ => rfl, fun _ => rfl, i2, i3, fun h => (i4 h).imp fun g hg => ⟨hg.1, hg.2.1, hg.2.2.kept0 hk6⟩, fun h => (i5 h).imp fun g hg => ⟨hg.1, hg.2.1, hg.2.2.kept0 hk6⟩, i6, i7, i8, hK.andThen hk6⟩
    · cases ho
      refine wpList_load_blk rfl 109 (.tmp 5) rfl g5 rfl 109 _ _ (hB5.kept0 hK) arr64k rfl (size_of_len size64k h64) ?_
      exact ⟨b0, b1, true, b3, b4, b5, b6, b7, v6, v7, v11, v12, _, v14, rfl, rfl, i0, i1, fun _ => rfl, i3, i4, i5, i6, i7, i8, hK⟩
    · have hb2 : b2 = true := by clear ho i0 i1 i2 i3 i4 i5 i6 i7 i8 hlt; revert b0 b1 b2 b3 b4 b5 b6 b7; decide +kernel
      obtain rfl := i2 hb2
      cases ho
      go_wp2_with fail
      refine (mixed_any (hkey key) 92 _ _ rfl h64).mono ?_
      rintro e w6 ⟨rfl, hk6⟩
      go_wp2
      exact ⟨b0, b1, b2, true, b4, b5, b6, b7, v6, v7, v11, v12, _, _, rfl, rfl, i0, i1, fun _ => rfl, fun _ => rfl, fun h => (i4 h).imp fun g hg => ⟨hg.1, hg.2.1, hg.2.2.kept0 hk6⟩, fun h => (i5 h).imp fun g hg => ⟨hg.1, hg.2.1, hg.2.2.kept0 hk6⟩, i6, i7, i8, hK.andThen hk6⟩
    · have hb4 : b4 = false := by clear ho i0 i1 i2 i3 i4 i5 i6 i7 i8 hlt; revert b0 b1 b2 b3 b4 b5 b6 b7; decide +kernel
      have hb6 : b6 = false := by cases b6; rfl; rw [i6 rfl] at hb4; cases hb4
      subst hb4 hb6
      cases ho
      refine wpList_alloc_blk rfl 109 rfl _ zero64k ?_
      intro w6 hN hk6 hs6
      exact ⟨b0, b1, b2, b3, true, b5, false, b7, _, v7, v11, v12, v13, v14, rfl, rfl, i0, i1, i2, i3, fun _ => ⟨wc.heap.size, rfl, hK.size, hN⟩, fun h => (i5 h).imp fun g hg => ⟨hg.1, hg.2.1, hg.2.2.kept0 hk6⟩, fun _ => rfl, i7, fun _ h => by
        obtain ⟨g, rfl, _, hg⟩ := i5 h
        have := hg.lt
        intro e
        injection e with e; injection e with e; injection e with e
        omega, hK.andThen hk6⟩
    · have hb5 : b5 = false := by clear ho i0 i1 i2 i3 i4 i5 i6 i7 i8 hlt; revert b0 b1 b2 b3 b4 b5 b6 b7; decide +kernel
      have hb7 : b7 = false := by cases b7; rfl; rw [i7 rfl] at hb5; cases hb5
      subst hb5 hb7
      cases ho
      refine wpList_alloc_blk rfl 109 rfl _ zero64k ?_
      intro w6 hN hk6 hs6
      exact ⟨b0, b1, b2, b3, b4, true, b6, false, v6, _, v11, v12, v13, v14, rfl, rfl, i0, i1, i2, i3, fun h => (i4 h).imp fun g hg => ⟨hg.1, hg.2.1, hg.2.2.kept0 hk6⟩, fun _ => ⟨wc.heap.size, rfl, hK.size, hN⟩, i6, fun _ => rfl, fun h _ => by
        obtain ⟨g, rfl, _, hg⟩ := i4 h
        have := hg.lt
        intro e
        injection e with e; injection e with e; injection e with e
        omega, hK.andThen hk6⟩
    · obtain ⟨hb1, hb4, hb6⟩ : b1 = true ∧ b4 = true ∧ b6 = false := by clear ho i0 i1 i2 i3 i4 i5 i6 i7 i8 hlt; revert b0 b1 b2 b3 b4 b5 b6 b7; decide +kernel
      obtain rfl := i1 hb1
      obtain ⟨g, rfl, hg, hN⟩ := i4 hb4
      subst hb6
      cases ho
      refine wpList_store_blk rfl 109 (.tmp 6) (.tmp 12) rfl g _ rfl rfl 109 (zb 64) hN (size_of_len size64k (hxk_length _ _)) (zb_len (hxk_length _ _)) (bvs_one _) ?_
      intro w6 hN6 hk6 hs6
      exact ⟨b0, b1, b2, b3, b4, b5, true, b7, _, v7, v11, _, v13, v14, rfl, rfl, i0, fun _ => rfl, i2, i3, fun _ => ⟨g, rfl, hg, hN6⟩, fun h => by
        obtain ⟨g7, rfl, hg7, hN7⟩ := i5 h
        refine ⟨g7, rfl, hg7, hN7.kept hk6 ?_⟩
        have hne := i8 hb4 h
        simp only [List.mem_singleton]
        rintro rfl
        exact hne rfl, fun _ => hb4, i7, i8, hK.trans hk6 (by simp; omega)⟩
    · obtain ⟨hb3, hb5, hb7⟩ : b3 = true ∧ b5 = true ∧ b7 = false := by clear ho i0 i1 i2 i3 i4 i5 i6 i7 i8 hlt; revert b0 b1 b2 b3 b4 b5 b6 b7; decide +kernel
      obtain rfl := i3 hb3
      obtain ⟨g, rfl, hg, hN⟩ := i5 hb5
      subst hb7
      cases ho
      refine wpList_store_blk rfl 109 (.tmp 7) (.tmp 14) rfl g _ rfl rfl 109 (zb 64) hN (size_of_len size64k (hxk_length _ _)) (zb_len (hxk_length _ _)) (bvs_one _) ?_
      intro w6 hN6 hk6 hs6
      exact ⟨b0, b1, b2, b3, b4, b5, b6, true, v6, _, v11, v12, v13, _, rfl, rfl, i0, i1, i2, fun _ => rfl, fun h => by
        obtain ⟨g7, rfl, hg7, hN7⟩ := i4 h
        refine ⟨g7, rfl, hg7, hN7.kept hk6 ?_⟩
        have hne := i8 h hb5
        simp only [List.mem_singleton]
        rintro rfl
        exact hne rfl, fun _ => ⟨g, rfl, hg, hN6⟩, i6, fun _ => hb5, i8, hK.trans hk6 (by simp; omega)⟩
  · rintro listed a wc he ⟨b0, b1, b2, b3, b4, b5, b6, b7, v6, v7, v11, v12, v13, v14, rfl, rfl, i0, i1, i2, i3, i4, i5, i6, i7, i8, hK⟩
    have hall : (b0 && b1 && b2 && b3 && b4 && b5 && b6 && b7) = true := by
      have he2 := congrArg List.isEmpty he
      rw [List.isEmpty_nil] at he2
      clear i0 i1 i2 i3 i4 i5 i6 i7 i8 he; revert b0 b1 b2 b3 b4 b5 b6 b7; decide +kernel
    simp only [Bool.and_eq_true] at hall
    obtain ⟨⟨⟨⟨⟨⟨⟨rfl, rfl⟩, rfl⟩, rfl⟩, rfl⟩, rfl⟩, rfl⟩, rfl⟩ := hall
    obtain rfl := i0 rfl
    obtain rfl := i1 rfl
    obtain rfl := i2 rfl
    obtain rfl := i3 rfl
    obtain ⟨g6, rfl, hg6, hN6⟩ := i4 rfl
    obtain ⟨g7, rfl, hg7, hN7⟩ := i5 rfl
    rw [if_pos rfl] at hN6 hN7
    have hKw := hK5.andThen hK
    have hRw := hR5.kept0 hK
    have hn4 : g4 < w5.heap.size := hR5.lt
    clear i0 i1 i2 i3 i4 i5 i6 i7 i8 he hm
    have hpw := hp.kept0 hKw
    have hgw := hgl.kept0 hKw
    obtain ⟨vs, hv, htx⟩ := hpw.vals
    obtain ⟨i0, hi, hz0, hz1, hz2⟩ := info_parts infoB
    have hcutB := fun g => run_cut_all (P := Tryd.prog) 109 5 64 g 0 arr64k size1b (by omega)
    have hcutK := fun g => run_cut_all (P := Tryd.prog) 23 5 32 g 0 arr32b size1b (by omega)
    have Htx := Lib.hid htx
    have Hv := Lib.hid hv
    clear hv htx hp hr hpw hK5 hR5 hB5
    go_wp2_with (at_builtin; refine wpList_append_vals rfl (.tmp 16) (.tmp 17) 107 rfl 26 i0 _ 24 Tryd.underlying107 hi hz0 hz1 hz2 rfl (.slice (some ⟨wc.heap.size, 0, none⟩) 1 1) [.slice (some ⟨g6, 0, none⟩) 64 64] rfl (World.ownsRow_lit (base := 0) (size := 1) wc #[.slice (some ⟨g6, 0, none⟩) 64 64] 1 (Nat.zero_le _) (by simp [maxLen]) rfl) A' n' c' vs rfl (Hv.out.kept0 ((Kept.refl [] wc).alloc _)) Htx.out.cells (by simp [maxLen]; omega) (by simp; omega) ?_)
    intro v8 w8 ho8 hk8 hm8
    have hA : Kept [] wc (wc.alloc (.cells #[.slice (some ⟨g6, 0, none⟩) 64 64] 26)) := (Kept.refl [] wc).alloc _
    obtain ⟨hK8, hb8⟩ := app_new hA (by intro g hg; simp [Value.ownBlock] at hg; omega) hk8 hm8
    obtain ⟨A8, n8, c8, rfl, hr8, _⟩ := ho8.form
    have hT6 : TxtV w8 (.slice (some ⟨g6, 0, none⟩) 64 64) (hx 54 (hkey key)) := ⟨_, _, _, rfl, ((hN6.all 64 (hxk_length _ _) (by omega)).kept0 hK8)⟩
    have hL8 : RdL w8 A8 n8 c8 ([hx 54 (hkey key)] ++ ls) := RdL.of_vals hr8 ((TxtVs.one hT6).append (Htx.out.kept0 hK8))
    have hfl : ([hx 54 (hkey key)] ++ ls).flatten = hx 54 (hkey key) ++ ls.flatten := by simp
    have Hfl := Lib.hid hfl
    have hfn : ([hx 54 (hkey key)] ++ ls).flatten.length < 1099511600000 := by rw [hfl, List.length_append, hxk_length]; omega
    have hg8 := hgw.kept0 hK8
    have hN78 := hN7.kept0 hK8
    have hR8 := hRw.kept0 hK8
    have hKw8 := hKw.andThen hK8
    clear hA hk8 hm8 ho8 hr8 hT6 hfl Htx Hv hgw hN7 hN6 hRw hKw hK hb8
    go_wp2_with fail
    refine (sums_any A8 n8 c8 _ _ hL8 hg8 hfn).mono ?_
    rw [Hfl.out]
    rintro e w9 ⟨rfl, hk9⟩
    have hg9 := hg8.kept0 hk9
    have hN79 := hN78.kept0 hk9
    have hR9 := hR8.kept0 hk9
    have hKw9 := hKw8.andThen hk9
    clear hL8 hfn hg8 hN78 hR8 hKw8 hk9 Hfl
    have hd9 := shaSum_length (hx 54 (hkey key) ++ ls.flatten)
    have HT := Lib.hid (hTag_eq key ls.flatten)
    generalize shaSum (hx 54 (hkey key) ++ ls.flatten) = dg at *
    go_wp2_with (with_reducible change wpList _ _ _ (⟨_, Op.alloc _, _, _, _, _⟩ :: _) _ _; refine wpList_alloc_blk rfl 23 rfl _ zero32 ?_)
    intro w10 hD10 hk10 hs10
    obtain ⟨g8, hg8⟩ : ∃ g8, g8 = w9.heap.size := ⟨_, rfl⟩
    rw [← hg8] at hD10 ⊢
    have hn48 : g4 ≠ g8 := by have := hR9.lt; omega
    have hn78 : g7 ≠ g8 := by have := hN79.lt; omega
    have hw8 : w.heap.size ≤ g8 := by have := hKw9.size; omega
    clear hs10 hg8
    go_wp2_with (with_reducible change wpList _ _ _ (⟨_, Op.store _ _ _, _, _, _, _⟩ :: _) _ _; refine wpList_store_blk rfl 23 (.tmp 8) (.tmp 19) rfl g8 (bvs dg) rfl rfl 23 (zb 32) hD10 (size_of_len size32 hd9) (zb_len hd9) (bvs_one _) ?_)
    intro w11 hD11 hk11 hs11
    have hN11 := (hN79.kept0 hk10).kept hk11 (by simpa using hn78)
    have hR11 := (hR9.kept0 hk10).kept hk11 (by simpa using hn48)
    have hK11 : Kept [] w w11 := (hKw9.andThen hk10).trans hk11 (by simp; omega)
    have hg11 := hgl.kept0 hK11
    have hS7 := (hN11.all 64 (hxk_length _ _) (by omega)).drew
    have hS8 := (hD11.all 32 hd9 (by omega)).drew
    have hg12 : Glob w11.drew := hg11
    have hR12 := hR11.drew
    have hK12 := hK11.drew
    clear hg9 hN79 hR9 hKw9 hD10 hk10 hg11 hN11 hD11 hR11 hK11 hk11 hgl
    go_wp2
    go_still_tail 2, (by kernel_rfl)
    change wpList _ _ _ _ _ w11.drew
    generalize w11.drew = w12 at *
    have hA : Kept [] w12 (w12.alloc (.cells #[.slice (some ⟨g7, 0, none⟩) 64 64, .slice (some ⟨g8, 0, none⟩) 32 32] 26)) := (Kept.refl [] w12).alloc _
    have hL12 := RdL.two 26 hS7 hS8
    have hfl : [hx 92 (hkey key), dg].flatten = hx 92 (hkey key) ++ dg := by simp
    have hfn : [hx 92 (hkey key), dg].flatten.length < 1099511600000 := by rw [hfl, List.length_append, hxk_length]; omega
    have Hfl := Lib.hid hfl
    have HA := Lib.hid hA
    clear hfl hA
    go_wp2_with fail
    refine (sums_any _ 2 2 _ _ hL12 (hg12.kept0 HA.out) hfn).mono ?_
    rw [Hfl.out, ← HT.out]
    rintro e w13 ⟨rfl, hk13⟩
    have hR13 := (hR12.kept0 HA.out).kept0 hk13
    have hK13 := (hK12.andThen HA.out).andThen hk13
    have ht := hTag_length key ls.flatten
    clear hR12 hK12 HA hk13 hL12 hS7 hS8 Hfl HT hfn
    go_wp2_with (with_reducible change wpList _ _ _ (⟨_, Op.store _ _ _, _, _, _, _⟩ :: _) _ _; refine wpList_store_blk rfl 23 (.tmp 4) (.tmp 23) rfl g4 (bvs (hTag key ls.flatten)) rfl rfl 23 (zb 32) hR13 (size_of_len size32 ht) (zb_len ht) (bvs_one _) ?_)
    intro w14 hR14 hk14 hs14
    go_wp2
    refine bodyPost_ret (results_blk rfl _ g4 23 _ _ rfl hR14 Tryd.underlying23 rfl (size_of_len size32 ht)) rfl ?_
    exact ⟨rfl, hK13.trans hk14 (by simp; omega)⟩

theorem hTagF_any (A A' : Option Addr) (n c n' c' : Nat) (key text : List UInt8) (w : World) (hr : RdB w A n c key) (hp : RdB w A' n' c' text) (hgl : Glob w) (hL : n < 1099511600000) (hM : n' < 1099511000000) :
    Calls Tryd.prog 40 #[.slice A n c, .slice A' n' c'] w (KeyRet (hTag key text) w) := by
  have hl := hp.len
  have hfl : [text].flatten = text := by simp
  have ht := hTag_length key text
  go_enter Tryd.func40, Tryd.ntmps40
  go_wp2_with (with_reducible change wpList _ _ _ (⟨_, Op.alloc _, _, _, _, _⟩ :: _) _ _; refine wpList_alloc_blk rfl 23 rfl _ zero32 ?_)
  intro w1 hR1 hk1 hs1
  have hp1 := RdL.one 26 (hp.kept0 hk1)
  have ha : Kept [] w1 (w1.alloc (.cells #[.slice A' n' c'] 26)) := (Kept.refl [] w1).alloc _
  have HA := Lib.hid ha
  have Hfl := Lib.hid hfl
  clear ha hfl
  go_wp2_with fail
  refine (tag_any A _ n c 1 1 key [text] _ ((hr.kept0 hk1).kept0 HA.out) (by rw [← hs1]; exact hp1) ((hgl.kept0 hk1).kept0 HA.out) hL (by rw [Hfl.out]; omega) (by omega)).mono ?_
  rw [Hfl.out]
  rintro e w2 ⟨rfl, hk2⟩
  have hR2 := (hR1.kept0 HA.out).kept0 hk2
  have hK2 := (hk1.andThen HA.out).andThen hk2
  clear HA hp1 hR1 hk1 hk2
  go_wp2_with (with_reducible change wpList _ _ _ (⟨_, Op.store _ _ _, _, _, _, _⟩ :: _) _ _; refine wpList_store_blk rfl 23 (.tmp 4) (.tmp 8) rfl w.heap.size (bvs (hTag key text)) rfl rfl 23 (zb 32) hR2 (size_of_len size32 ht) (zb_len ht) (bvs_one _) ?_)
  intro w3 hR3 hk3 hs3
  go_wp2
  refine bodyPost_ret (results_blk rfl _ w.heap.size 23 _ _ rfl hR3 Tryd.underlying23 rfl (size_of_len size32 ht)) rfl ?_
  exact ⟨rfl, hK2.trans hk3 (by simp)⟩
end Go.Proofs.YtibcjbelcplpjaaDoor
/-
  Contract of the document's own: a digest's bytes. No statement of the seed is proved here.
-/
namespace Go.Proofs.YtibcjbelcplpjaaDoor
open Go.RowKit
set_option linter.unusedVariables false

def slenH : Value → Nat
  | .slice _ n _ => n
  | _ => 0

set_option maxRecDepth 100000 in
set_option maxHeartbeats 1000000 in
theorem rBytes_any (bs : List UInt8) (w : World) (hl : bs.length = 32) :
    Calls Tryd.prog 42 #[.agg (bvs bs).toArray] w (CloneRet bs w) := by
  obtain ⟨i0, hi, hz0, hz1, hz2⟩ := info_parts u8info
  have hB := Blk.new w 23 (bvs bs)
  have hK1 : Kept [] w (w.alloc (.cells (bvs bs).toArray 23)) := (Kept.refl [] w).alloc _
  have hs1 : (w.alloc (.cells (bvs bs).toArray 23)).heap.size = w.heap.size + 1 := by simp
  have Hl := Lib.hid hl
  go_enter Tryd.func42, Tryd.ntmps42
  go_wp2_with (first
    | (with_reducible change wpList _ _ _ (⟨_, Op.box _ _, _, _, _, _⟩ :: _) _ _; refine Great.wpList_boxTo rfl 23 _ rfl _ rfl w.heap.size rfl (bvs bs).toArray rfl ?_; generalize w.alloc (.cells (bvs bs).toArray 23) = w1 at *)
    | (with_reducible change wpList _ _ _ (⟨_, Op.makeSlice _ _ _, _, _, _, _⟩ :: _) _ _; refine wpList_make_bytes rfl _ _ 26 rfl 5 i0 Tryd.underlying26 hi hz0 hz1 hz2 _ _ _ _ 32 rfl rfl rfl rfl (by omega) ?_))
  intro w2 hown2 hk2
  have hB2 := hB.kept0 hk2
  have hK2 := hK1.andThen hk2
  obtain ⟨g, hg⟩ : ∃ g, g = w.heap.size := ⟨_, rfl⟩
  obtain ⟨r, hr⟩ : ∃ r, r = w.heap.size + 1 := ⟨_, rfl⟩
  rw [← hr] at hown2 ⊢
  rw [← hg] at hB2 ⊢
  have hrg : g ≠ r := by omega
  have hrw : w.heap.size ≤ r := by omega
  clear hB hK1 hs1 hk2 hl hg hr
  go_wp2
  go_loopw [4] (fun i wr => ∃ k : Nat, k ≤ 32 ∧ i = .int .i64 k ∧ Blk wr g 23 (bvs bs) ∧ OwB 5 wr (.slice (some ⟨r, 0, none⟩) 32 32) (bs.take k ++ List.replicate (32 - k) 0) ∧ Kept [] w wr) (fun i _ => 32 - (intOf i).toNat)
  case atStart => exact ⟨0, by omega, rfl, hB2, by simpa using hown2, hK2⟩
  case round =>
    obtain ⟨k, hk, rfl, hB3, ho, hK⟩ := hrel
    clear hB2 hown2 hK2
    by_cases hlt : k < 32
    · have hkl : (bs.take k).length = k := by rw [List.length_take]; have := Hl.out; omega
      obtain ⟨y, hy⟩ : ∃ y, bs[k]? = some y := ⟨bs[k]'(by have := Hl.out; omega), List.getElem?_eq_getElem _⟩
      have c1 : wr.cell? ⟨g, k, none⟩ = some (.int .u8 (y.toNat : Int)) := by rw [hB3.cell, bvs, List.getElem?_map, hy]; rfl
      have hnew := ho.set k y
      have hse := set_mid (bs.take k) (32 - k) y (by omega)
      rw [hkl] at hse
      rw [hse, ← take_step bs k y hy, Nat.sub_sub] at hnew
      have hfz := ho.fz k
      obtain ⟨b3, off3, y3, e3, c3, _, _⟩ := ho.rd.byte (k := k) (by omega)
      simp only [Option.some.injEq, Addr.mk.injEq] at e3
      obtain ⟨rfl, rfl, _⟩ := e3
      rw [Nat.zero_add] at c3
      have hBn : Blk (wr.setCell ⟨r, k, none⟩ (.int .u8 (y.toNat : Int))) g 23 (bvs bs) := hB3.set_other k _ hrg
      have hkn : Kept [] w (wr.setCell ⟨r, k, none⟩ (.int .u8 (y.toNat : Int))) := hK.setCell (by right; exact hrw) _
      unfold bcell at hnew
      clear hse hkl hy hB3 ho hK
      go_wp2
      go_roundw
      case rel => exact ⟨k + 1, by omega, by go_num, hBn, hnew, hkn⟩
      case measure => simp [intOf]; omega
    · obtain rfl : k = 32 := by omega
      rw [List.take_of_length_le (by have := Hl.out; omega)] at ho
      go_wp2
      go_ret
      exact ⟨_, rfl, by simpa using ho, hK, by intro q hq; simp [Value.ownBlock] at hq; omega⟩

end Go.Proofs.YtibcjbelcplpjaaDoor
/-
  Contracts of the document's own answers for layer 3: the tag. No statement of the seed is proved here.
-/
namespace Go.Proofs.YtibcjbelcplpjaaDoor
open Go.RowKit
set_option linter.unusedVariables false

theorem apart_step {W : World} {u u' v : Value} (hm : Moved W u u') (hv : ∀ g, v.ownBlock = some g → g < W.heap.size) (ha : ∀ g, u.ownBlock = some g → v.ownBlock ≠ some g) : ∀ g, u'.ownBlock = some g → v.ownBlock ≠ some g := by
  intro g hg e
  rcases hm g hg with h | h
  · exact ha g h e
  · have := hv g e; omega
theorem hx_step (x : UInt8) (l : List UInt8) (k : Nat) (y : UInt8) (h : l[k]? = some y) : hx x (l.take (k + 1)) = hx x (l.take k) ++ [y ^^^ x] := by
  rw [hx_eq, hx_eq, take_step l k y h, List.map_append]; rfl
theorem bits54 (y : UInt8) : bits .xor .u8 (y.toNat : Int) 54 = ((y ^^^ 54).toNat : Int) := bits_xorB y 54
theorem bits92 (y : UInt8) : bits .xor .u8 (y.toNat : Int) 92 = ((y ^^^ 92).toNat : Int) := bits_xorB y 92
theorem pad_more (k0 : List UInt8) (j : Nat) (h : k0.length + j = 64) : k0 ++ List.replicate j 0 = hpad k0 := by
  unfold hpad; congr 2; omega

set_option maxRecDepth 100000 in
set_option maxHeartbeats 4000000 in
theorem rTag_any (A A' : Option Addr) (n c n' c' : Nat) (key text : List UInt8) (w : World) (hr : RdB w A n c key) (hp : RdB w A' n' c' text) (hn : n ≤ 100000) (hn' : n' ≤ 100000) :
    Calls Tryd.prog 41 #[.slice A n c, .slice A' n' c'] w (KeyRet (hTag key text) w) := by
  obtain ⟨i0, hi, hz0, hz1, hz2⟩ := info_parts u8info
  have hlk := hr.len
  have hlt0 := hp.len
  have Hlt := Lib.hid hlt0
  clear hlt0
  by_cases hbig : 64 < n
  · go_enter Tryd.func41, Tryd.ntmps41
    go_wp2_with (with_reducible change wpList _ _ _ (⟨_, Op.alloc _, _, _, _, _⟩ :: _) _ _; refine wpList_alloc_blk rfl 23 rfl _ zero32 ?_)
    intro w1 hR1 hk1 hs1
    obtain ⟨g4, hg4⟩ : ∃ g4, g4 = w.heap.size := ⟨_, rfl⟩
    rw [← hg4] at hR1 ⊢
    have hw4 : w.heap.size ≤ g4 := by omega
    clear hs1 hg4
    have hr1 := hr.kept0 hk1
    have hp1 := hp.kept0 hk1
    obtain ⟨k0, hk0⟩ : ∃ k0, k0 = shaSum key := ⟨_, rfl⟩
    have hd : k0.length = 32 := by rw [hk0]; exact shaSum_length key
    have HK0 : Hid (k0.length ≤ 64) := Lib.hid (by omega)
    have HP : Hid (hpad k0 = hkey key) := Lib.hid (by rw [hk0]; exact (hkey_long (by omega)).symm)
    have HE := Lib.hid hk0
    clear hk0
    go_wp2_with fail
    refine (rSum_any A n c key _ hr1 (by omega)).mono ?_
    rw [← HE.out]
    rintro e w2 ⟨rfl, hk2⟩
    go_wp2_with fail
    refine (rBytes_any k0 _ hd).mono ?_
    rintro e w2b ⟨v2, rfl, ho2, hk2b, hf2⟩
    obtain ⟨A2, n2, c2, rfl, hr2, _⟩ := ho2.form
    have hn2 : n2 = 32 := by have := hr2.len; omega
    subst hn2
    have hK2 := hk2.andThen hk2b
    clear hk2 hk2b hf2 ho2 hr hp hr1
    go_wp2_with (at_builtin; refine wpList_append_bytes rfl (.tmp 12) (.tmp 15) 26 rfl 5 i0 _ 1 Tryd.underlying26 hi hz0 hz1 hz2 rfl (.slice none 0 0) [] rfl (OwB.nil _ _) A2 32 c2 k0 rfl hr2 (by simp [maxLen]) (by simp) ?_)
    intro v3 w3 ho3 hk3 hm3
    obtain ⟨hK3, hb3⟩ := app_new hK2 (by simp [Value.ownBlock]) hk3 hm3
    obtain ⟨A3, n3, c3, rfl, hr3, _⟩ := ho3.form
    clear hr3 hK2 hk3 hm3 hr2 HE hd
    go_wp2
    go_loopw [5] (fun v wr => ∃ (j : Nat) (A4 : Option Addr) (n4 c4 : Nat), v = .slice A4 n4 c4 ∧ OwB 5 wr (.slice A4 n4 c4) (k0 ++ List.replicate j 0) ∧ n4 ≤ 64 ∧ Hid (k0.length + j = n4) ∧ Kept [] w1 wr ∧ Hid (∀ g, (Value.slice A4 n4 c4).ownBlock = some g → w1.heap.size ≤ g)) (fun v _ => 64 - slenH v)
    case atStart => exact ⟨0, A3, n3, c3, rfl, by simpa using ho3, by have := ho3.rd.len; have := HK0.out; omega, Lib.hid (by have := ho3.rd.len; omega), hK3, Lib.hid hb3⟩
    case round =>
      obtain ⟨j, A4, n4, c4, rfl, ho4, hn4, Hj, hK4, Hb4⟩ := hrel
      clear ho3 hb3 hK3
      by_cases hlt : n4 < 64
      · have hL4 : Hid ((k0 ++ List.replicate j 0).length = n4) := Lib.hid (by rw [List.length_append, List.length_replicate]; exact Hj.out)
        have hA : Kept [] w1 (wr.alloc (.cells #[.int .u8 0] 5)) := hK4.alloc _
        have HA := Lib.hid hA
        clear hA
        go_wp2_with (at_builtin; refine wpList_append_bytes rfl (.tmp 23) (.tmp 24) 26 rfl 5 i0 _ 1 Tryd.underlying26 hi hz0 hz1 hz2 rfl (.slice A4 n4 c4) _ rfl (ho4.alloc _) _ 1 1 [0] rfl (RdB.one wr 5 0 0 rfl) (by rw [hL4.out]; simp only [maxLen]; omega) (by rw [hL4.out]; omega) ?_)
        intro v6 w6 ho6 hk6 hm6
        obtain ⟨hK6, hb6⟩ := app_new HA.out Hb4.out hk6 hm6
        obtain ⟨A6, n6, c6, rfl, hr6, _⟩ := ho6.form
        have hl6 : n6 = n4 + 1 := by have h1 := hr6.len; have h2 := hL4.out; simp only [List.length_append, List.length_replicate, List.length_singleton] at h1 h2; omega
        subst hl6
        have ho7 : OwB 5 w6 (.slice A6 (n4 + 1) c6) (k0 ++ List.replicate (j + 1) 0) := by
          rw [List.replicate_succ']; simpa only [List.append_assoc] using ho6
        have Hb6 := Lib.hid hb6
        have HO := Lib.hid ho7
        clear hr6 hb6 hk6 hm6 ho4 hK4 HA ho6 ho7
        go_wp2
        go_roundw
        case rel => exact ⟨j + 1, A6, n4 + 1, c6, rfl, HO.out, by omega, Lib.hid (by have := Hj.out; omega), hK6, Hb6⟩
        case measure => simp [slenH]; omega
      · obtain rfl : n4 = 64 := by omega
        rw [pad_more k0 j Hj.out, HP.out] at ho4
        obtain ⟨w4, rfl⟩ : ∃ w4, w4 = wr := ⟨_, rfl⟩
        have hr4 := ho4.rd
        have hl4 := hkey_length key
        have Hl4 := Lib.hid hl4
        clear hl4 ho4 Hj HP HK0 hlt hn4 Hb4
        go_wp2
        go_loopw [6, 7, 8] (fun u v i wr => ∃ (k : Nat) (A6 : Option Addr) (n6 c6 : Nat) (A7 : Option Addr) (n7 c7 : Nat), k ≤ 64 ∧ i = .int .i64 k ∧ u = .slice A6 n6 c6 ∧ v = .slice A7 n7 c7 ∧ OwB 5 wr (.slice A6 n6 c6) (hx 54 ((hkey key).take k)) ∧ OwB 5 wr (.slice A7 n7 c7) (hx 92 ((hkey key).take k)) ∧ Kept [] w4 wr ∧ Hid (∀ g, (Value.slice A6 n6 c6).ownBlock = some g → w4.heap.size ≤ g) ∧ Hid (∀ g, (Value.slice A7 n7 c7).ownBlock = some g → w4.heap.size ≤ g) ∧ Hid (∀ g, (Value.slice A6 n6 c6).ownBlock = some g → (Value.slice A7 n7 c7).ownBlock ≠ some g)) (fun _ _ i _ => 64 - (intOf i).toNat)
        case atStart => exact ⟨0, none, 0, 0, none, 0, 0, by omega, rfl, rfl, rfl, by rw [List.take_zero, hx_eq]; exact OwB.nil _ _, by rw [List.take_zero, hx_eq]; exact OwB.nil _ _, Kept.refl _ _, Lib.hid (by simp [Value.ownBlock]), Lib.hid (by simp [Value.ownBlock]), Lib.hid (by simp [Value.ownBlock])⟩
        case round =>
          obtain ⟨k, A6, n6, c6, A7, n7, c7, hk, rfl, rfl, rfl, ho6, ho7, hK6, Hf6, Hf7, Hap⟩ := hrel
          by_cases hlt : k < 64
          · obtain ⟨b, off, y, rfl, c0, hy, _⟩ := hr4.byte hlt
            obtain ⟨b2, off2, e2, hb2, _⟩ := hr4.at_ (by omega)
            have hbw : b < w4.heap.size := by cases e2; exact hb2
            have c1 := (hK6.cell (p := ⟨b, off + k, none⟩) hbw (by simp)).trans c0
            have hln : ((hkey key).take k).length = k := by rw [List.length_take]; have := Hl4.out; omega
            have L6 : Hid ((hx 54 ((hkey key).take k)).length = k) := Lib.hid (by rw [hx_length]; exact hln)
            have L7 : Hid ((hx 92 ((hkey key).take k)).length = k) := Lib.hid (by rw [hx_length]; exact hln)
            have HS6 := Lib.hid (hx_step 54 (hkey key) k y hy)
            have HS7 := Lib.hid (hx_step 92 (hkey key) k y hy)
            have hA : Kept [] w4 (wr.alloc (.cells #[.int .u8 (bits .xor .u8 (y.toNat : Int) 54)] 5)) := hK6.alloc _
            have HA := Lib.hid hA
            clear hln hy e2 hb2 hA
            go_wp2_with (at_builtin; refine wpList_append_bytes rfl (.tmp 30) (.tmp 36) 26 rfl 5 i0 _ 1 Tryd.underlying26 hi hz0 hz1 hz2 rfl (.slice A6 n6 c6) _ rfl (ho6.alloc _) _ 1 1 [y ^^^ 54] rfl (RdB.one wr 5 _ _ (bits54 y)) (by rw [L6.out]; simp only [maxLen]; omega) (by rw [L6.out]; omega) ?_)
            intro v8 w8 ho8 hk8 hm8
            rw [← HS6.out] at ho8
            obtain ⟨hK8, hf8⟩ := app_new HA.out Hf6.out hk8 hm8
            have ho78 := (ho7.alloc (.cells #[.int .u8 (bits .xor .u8 (y.toNat : Int) 54)] 5)).kept hk8 (fun g hg hin => Hap.out g (by simpa using hin) hg)
            have hap8 := apart_step hm8 (fun g hg => by obtain ⟨_, _, _, _, _, hh⟩ := (ho7.alloc (.cells #[.int .u8 (bits .xor .u8 (y.toNat : Int) 54)] 5)).form; exact hh g hg) Hap.out
            have c2 := (hK8.cell (p := ⟨b, off + k, none⟩) hbw (by simp)).trans c0
            obtain ⟨A8, n8, c8, rfl, _, _⟩ := ho8.form
            have Hf8 := Lib.hid hf8
            have Hap8 := Lib.hid hap8
            have hA2 : Kept [] w4 (w8.alloc (.cells #[.int .u8 (bits .xor .u8 (y.toNat : Int) 92)] 5)) := hK8.alloc _
            have HA2 := Lib.hid hA2
            clear hf8 hap8 hk8 hm8 HA ho6 ho7 hK6 Hf6 Hap HS6 L6 c1 hA2
            go_wp2_with (at_builtin; refine wpList_append_bytes rfl (.tmp 38) (.tmp 44) 26 rfl 5 i0 _ 1 Tryd.underlying26 hi hz0 hz1 hz2 rfl (.slice A7 n7 c7) _ rfl (ho78.alloc _) _ 1 1 [y ^^^ 92] rfl (RdB.one w8 5 _ _ (bits92 y)) (by rw [L7.out]; simp only [maxLen]; omega) (by rw [L7.out]; omega) ?_)
            intro v9 w9 ho9 hk9 hm9
            rw [← HS7.out] at ho9
            obtain ⟨hK9, hf9⟩ := app_new HA2.out Hf7.out hk9 hm9
            have hap7 : ∀ g, (Value.slice A7 n7 c7).ownBlock = some g → (Value.slice A8 n8 c8).ownBlock ≠ some g := fun g h1 h2 => Hap8.out g h2 h1
            have ho89 := (ho8.alloc (.cells #[.int .u8 (bits .xor .u8 (y.toNat : Int) 92)] 5)).kept hk9 (fun g hg hin => hap7 g (by simpa using hin) hg)
            have hap9 := apart_step hm9 (fun g hg => by obtain ⟨_, _, _, _, _, hh⟩ := (ho8.alloc (.cells #[.int .u8 (bits .xor .u8 (y.toNat : Int) 92)] 5)).form; exact hh g hg) hap7
            obtain ⟨A9, n9, c9, rfl, _, _⟩ := ho9.form
            have Hf9 := Lib.hid hf9
            have Hap9 : Hid (∀ g, (Value.slice A8 n8 c8).ownBlock = some g → (Value.slice A9 n9 c9).ownBlock ≠ some g) := Lib.hid (fun g h1 h2 => hap9 g h2 h1)
            clear hf9 hap9 hap7 hk9 hm9 HA2 ho8 ho78 hK8 Hf7 Hap8 HS7 L7 c2 c0
            go_wp2
            go_roundw
            case rel => exact ⟨k + 1, A8, n8, c8, A9, n9, c9, by omega, by go_num, rfl, rfl, ho89, ho9, hK9, Hf8, Hf9, Hap9⟩
            case measure => simp [intOf]; omega
          · obtain rfl : k = 64 := by omega
            rw [List.take_of_length_le (by have := Hl4.out; omega)] at ho6 ho7
            have hKw := hK4.andThen hK6
            have hp6 := hp1.kept0 hKw
            have hR6 := hR1.kept0 hKw
            have L6 : Hid ((hx 54 (hkey key)).length = 64) := Lib.hid (hxk_length _ _)
            have L7 : Hid ((hx 92 (hkey key)).length = 64) := Lib.hid (hxk_length _ _)
            clear hr4 hlt hk
            go_wp2_with (at_builtin; refine wpList_append_bytes rfl (.tmp 46) (.tmp 47) 26 rfl 5 i0 _ 1 Tryd.underlying26 hi hz0 hz1 hz2 rfl (.slice A6 n6 c6) _ rfl ho6 A' n' c' text rfl hp6 (by rw [L6.out]; simp only [maxLen]; omega) (by rw [L6.out]; omega) ?_)
            intro v8 w8 ho8 hk8 hm8
            obtain ⟨hK8, hf8⟩ := app_new hK6 Hf6.out hk8 hm8
            have ho78 := ho7.kept hk8 (fun g hg hin => Hap.out g (by simpa using hin) hg)
            obtain ⟨A8, n8, c8, rfl, hr8, _⟩ := ho8.form
            have hn8 : n8 ≤ 1000000 := by have := hr8.len; rw [List.length_append, L6.out, Hlt.out] at this; omega
            have hKw8 := hK4.andThen hK8
            clear ho6 ho7 hk8 hm8 hf8 hK6 hKw hp6 hR6 ho8 Hap Hf6
            go_wp2_with fail
            refine (rSum_any A8 n8 c8 _ _ hr8 hn8).mono ?_
            rintro e w9 ⟨rfl, hk9⟩
            have ho79 := ho78.kept0 hk9
            have hK9 := hK8.andThen hk9
            have hKw9 := hKw8.andThen hk9
            have hd9 := shaSum_length (hx 54 (hkey key) ++ text)
            have HT := Lib.hid (hTag_eq key text)
            clear ho78 hk9 hr8 hK8 hKw8
            generalize shaSum (hx 54 (hkey key) ++ text) = dg at *
            go_wp2_with fail
            refine (rBytes_any dg _ hd9).mono ?_
            rintro e w10 ⟨v10, rfl, ho10, hk10, hf10⟩
            obtain ⟨A10, n10, c10, rfl, hr10, _⟩ := ho10.form
            have hn10 : n10 = 32 := by have := hr10.len; omega
            subst hn10
            have ho710 := ho79.kept0 hk10
            have hK10 := hK9.andThen hk10
            have hKw10 := hKw9.andThen hk10
            clear ho79 hk10 hK9 hKw9 hf10 ho10
            go_wp2_with (at_builtin; refine wpList_append_bytes rfl (.tmp 49) (.tmp 52) 26 rfl 5 i0 _ 1 Tryd.underlying26 hi hz0 hz1 hz2 rfl (.slice A7 n7 c7) _ rfl ho710 A10 32 c10 dg rfl hr10 (by rw [L7.out]; simp only [maxLen]; omega) (by rw [L7.out]; omega) ?_)
            intro v11 w11 ho11 hk11 hm11
            obtain ⟨hK11, hf11⟩ := app_new hK10 Hf7.out hk11 hm11
            obtain ⟨A11, n11, c11, rfl, hr11, _⟩ := ho11.form
            have hn11 : n11 ≤ 1000000 := by have := hr11.len; rw [List.length_append, L7.out, hd9] at this; omega
            have hKw11 := hK4.andThen hK11
            clear ho710 hk11 hm11 hf11 hK10 hKw10 ho11 hr10 Hf7
            go_wp2_with fail
            refine (rSum_any A11 n11 c11 _ _ hr11 hn11).mono ?_
            rw [← HT.out]
            rintro e w12 ⟨rfl, hk12⟩
            have hR12 := (hR1.kept0 hKw11).kept0 hk12
            have hK12 := (hk1.andThen hKw11).andThen hk12
            have ht := hTag_length key text
            clear hr11 hKw11 hK11 hk12 hR1
            go_wp2_with (with_reducible change wpList _ _ _ (⟨_, Op.store _ _ _, _, _, _, _⟩ :: _) _ _; refine wpList_store_blk rfl 23 (.tmp 4) (.tmp 55) rfl g4 (bvs (hTag key text)) rfl rfl 23 (zb 32) hR12 (size_of_len size32 ht) (zb_len ht) (bvs_one _) ?_)
            intro w13 hR13 hk13 hs13
            go_wp2
            refine bodyPost_ret (results_blk rfl _ g4 23 _ _ rfl hR13 Tryd.underlying23 rfl (size_of_len size32 ht)) rfl ?_
            exact ⟨rfl, hK12.trans hk13 (by simp; omega)⟩
  · go_enter Tryd.func41, Tryd.ntmps41
    go_wp2_with (with_reducible change wpList _ _ _ (⟨_, Op.alloc _, _, _, _, _⟩ :: _) _ _; refine wpList_alloc_blk rfl 23 rfl _ zero32 ?_)
    intro w1 hR1 hk1 hs1
    obtain ⟨g4, hg4⟩ : ∃ g4, g4 = w.heap.size := ⟨_, rfl⟩
    rw [← hg4] at hR1 ⊢
    have hw4 : w.heap.size ≤ g4 := by omega
    clear hs1 hg4
    have hr1 := hr.kept0 hk1
    have hp1 := hp.kept0 hk1
    obtain ⟨k0, hk0⟩ : ∃ k0, k0 = key := ⟨_, rfl⟩
    have HK0 : Hid (k0.length ≤ 64) := Lib.hid (by rw [hk0]; omega)
    have HP : Hid (hpad k0 = hkey key) := Lib.hid (by rw [hk0]; exact (hkey_short (by omega)).symm)
    have hr1b : RdB w1 A n c k0 := by rw [hk0]; exact hr1
    clear hk0 hr hp hr1
    go_wp2_with (at_builtin; refine wpList_append_bytes rfl (.tmp 17) (.tmp 18) 26 rfl 5 i0 _ 1 Tryd.underlying26 hi hz0 hz1 hz2 rfl (.slice none 0 0) [] rfl (OwB.nil _ _) A n c k0 rfl hr1b (by simp [maxLen]; omega) (by simp; omega) ?_)
    intro v3 w3 ho3 hk3 hm3
    obtain ⟨hK3, hb3⟩ := app_new (Kept.refl [] w1) (by simp [Value.ownBlock]) hk3 hm3
    obtain ⟨A3, n3, c3, rfl, hr3, _⟩ := ho3.form
    clear hr3 hk3 hm3 hr1b
    go_wp2
    go_loopw [5] (fun v wr => ∃ (j : Nat) (A4 : Option Addr) (n4 c4 : Nat), v = .slice A4 n4 c4 ∧ OwB 5 wr (.slice A4 n4 c4) (k0 ++ List.replicate j 0) ∧ n4 ≤ 64 ∧ Hid (k0.length + j = n4) ∧ Kept [] w1 wr ∧ Hid (∀ g, (Value.slice A4 n4 c4).ownBlock = some g → w1.heap.size ≤ g)) (fun v _ => 64 - slenH v)
    case atStart => exact ⟨0, A3, n3, c3, rfl, by simpa using ho3, by have := ho3.rd.len; have := HK0.out; omega, Lib.hid (by have := ho3.rd.len; omega), hK3, Lib.hid hb3⟩
    case round =>
      obtain ⟨j, A4, n4, c4, rfl, ho4, hn4, Hj, hK4, Hb4⟩ := hrel
      clear ho3 hb3 hK3
      by_cases hlt : n4 < 64
      · have hL4 : Hid ((k0 ++ List.replicate j 0).length = n4) := Lib.hid (by rw [List.length_append, List.length_replicate]; exact Hj.out)
        have hA : Kept [] w1 (wr.alloc (.cells #[.int .u8 0] 5)) := hK4.alloc _
        have HA := Lib.hid hA
        clear hA
        go_wp2_with (at_builtin; refine wpList_append_bytes rfl (.tmp 23) (.tmp 24) 26 rfl 5 i0 _ 1 Tryd.underlying26 hi hz0 hz1 hz2 rfl (.slice A4 n4 c4) _ rfl (ho4.alloc _) _ 1 1 [0] rfl (RdB.one wr 5 0 0 rfl) (by rw [hL4.out]; simp only [maxLen]; omega) (by rw [hL4.out]; omega) ?_)
        intro v6 w6 ho6 hk6 hm6
        obtain ⟨hK6, hb6⟩ := app_new HA.out Hb4.out hk6 hm6
        obtain ⟨A6, n6, c6, rfl, hr6, _⟩ := ho6.form
        have hl6 : n6 = n4 + 1 := by have h1 := hr6.len; have h2 := hL4.out; simp only [List.length_append, List.length_replicate, List.length_singleton] at h1 h2; omega
        subst hl6
        have ho7 : OwB 5 w6 (.slice A6 (n4 + 1) c6) (k0 ++ List.replicate (j + 1) 0) := by
          rw [List.replicate_succ']; simpa only [List.append_assoc] using ho6
        have Hb6 := Lib.hid hb6
        have HO := Lib.hid ho7
        clear hr6 hb6 hk6 hm6 ho4 hK4 HA ho6 ho7
        go_wp2
        go_roundw
        case rel => exact ⟨j + 1, A6, n4 + 1, c6, rfl, HO.out, by omega, Lib.hid (by have := Hj.out; omega), hK6, Hb6⟩
        case measure => simp [slenH]; omega
      · obtain rfl : n4 = 64 := by omega
        rw [pad_more k0 j Hj.out, HP.out] at ho4
        obtain ⟨w4, rfl⟩ : ∃ w4, w4 = wr := ⟨_, rfl⟩
        have hr4 := ho4.rd
        have hl4 := hkey_length key
        have Hl4 := Lib.hid hl4
        clear hl4 ho4 Hj HP HK0 hlt hn4 Hb4
        go_wp2
        go_loopw [6, 7, 8] (fun u v i wr => ∃ (k : Nat) (A6 : Option Addr) (n6 c6 : Nat) (A7 : Option Addr) (n7 c7 : Nat), k ≤ 64 ∧ i = .int .i64 k ∧ u = .slice A6 n6 c6 ∧ v = .slice A7 n7 c7 ∧ OwB 5 wr (.slice A6 n6 c6) (hx 54 ((hkey key).take k)) ∧ OwB 5 wr (.slice A7 n7 c7) (hx 92 ((hkey key).take k)) ∧ Kept [] w4 wr ∧ Hid (∀ g, (Value.slice A6 n6 c6).ownBlock = some g → w4.heap.size ≤ g) ∧ Hid (∀ g, (Value.slice A7 n7 c7).ownBlock = some g → w4.heap.size ≤ g) ∧ Hid (∀ g, (Value.slice A6 n6 c6).ownBlock = some g → (Value.slice A7 n7 c7).ownBlock ≠ some g)) (fun _ _ i _ => 64 - (intOf i).toNat)
        case atStart => exact ⟨0, none, 0, 0, none, 0, 0, by omega, rfl, rfl, rfl, by rw [List.take_zero, hx_eq]; exact OwB.nil _ _, by rw [List.take_zero, hx_eq]; exact OwB.nil _ _, Kept.refl _ _, Lib.hid (by simp [Value.ownBlock]), Lib.hid (by simp [Value.ownBlock]), Lib.hid (by simp [Value.ownBlock])⟩
        case round =>
          obtain ⟨k, A6, n6, c6, A7, n7, c7, hk, rfl, rfl, rfl, ho6, ho7, hK6, Hf6, Hf7, Hap⟩ := hrel
          by_cases hlt : k < 64
          · obtain ⟨b, off, y, rfl, c0, hy, _⟩ := hr4.byte hlt
            obtain ⟨b2, off2, e2, hb2, _⟩ := hr4.at_ (by omega)
            have hbw : b < w4.heap.size := by cases e2; exact hb2
            have c1 := (hK6.cell (p := ⟨b, off + k, none⟩) hbw (by simp)).trans c0
            have hln : ((hkey key).take k).length = k := by rw [List.length_take]; have := Hl4.out; omega
            have L6 : Hid ((hx 54 ((hkey key).take k)).length = k) := Lib.hid (by rw [hx_length]; exact hln)
            have L7 : Hid ((hx 92 ((hkey key).take k)).length = k) := Lib.hid (by rw [hx_length]; exact hln)
            have HS6 := Lib.hid (hx_step 54 (hkey key) k y hy)
            have HS7 := Lib.hid (hx_step 92 (hkey key) k y hy)
            have hA : Kept [] w4 (wr.alloc (.cells #[.int .u8 (bits .xor .u8 (y.toNat : Int) 54)] 5)) := hK6.alloc _
            have HA := Lib.hid hA
            clear hln hy e2 hb2 hA
            go_wp2_with (at_builtin; refine wpList_append_bytes rfl (.tmp 30) (.tmp 36) 26 rfl 5 i0 _ 1 Tryd.underlying26 hi hz0 hz1 hz2 rfl (.slice A6 n6 c6) _ rfl (ho6.alloc _) _ 1 1 [y ^^^ 54] rfl (RdB.one wr 5 _ _ (bits54 y)) (by rw [L6.out]; simp only [maxLen]; omega) (by rw [L6.out]; omega) ?_)
            intro v8 w8 ho8 hk8 hm8
            rw [← HS6.out] at ho8
            obtain ⟨hK8, hf8⟩ := app_new HA.out Hf6.out hk8 hm8
            have ho78 := (ho7.alloc (.cells #[.int .u8 (bits .xor .u8 (y.toNat : Int) 54)] 5)).kept hk8 (fun g hg hin => Hap.out g (by simpa using hin) hg)
            have hap8 := apart_step hm8 (fun g hg => by obtain ⟨_, _, _, _, _, hh⟩ := (ho7.alloc (.cells #[.int .u8 (bits .xor .u8 (y.toNat : Int) 54)] 5)).form; exact hh g hg) Hap.out
            have c2 := (hK8.cell (p := ⟨b, off + k, none⟩) hbw (by simp)).trans c0
            obtain ⟨A8, n8, c8, rfl, _, _⟩ := ho8.form
            have Hf8 := Lib.hid hf8
            have Hap8 := Lib.hid hap8
            have hA2 : Kept [] w4 (w8.alloc (.cells #[.int .u8 (bits .xor .u8 (y.toNat : Int) 92)] 5)) := hK8.alloc _
            have HA2 := Lib.hid hA2
            clear hf8 hap8 hk8 hm8 HA ho6 ho7 hK6 Hf6 Hap HS6 L6 c1 hA2
            go_wp2_with (at_builtin; refine wpList_append_bytes rfl (.tmp 38) (.tmp 44) 26 rfl 5 i0 _ 1 Tryd.underlying26 hi hz0 hz1 hz2 rfl (.slice A7 n7 c7) _ rfl (ho78.alloc _) _ 1 1 [y ^^^ 92] rfl (RdB.one w8 5 _ _ (bits92 y)) (by rw [L7.out]; simp only [maxLen]; omega) (by rw [L7.out]; omega) ?_)
            intro v9 w9 ho9 hk9 hm9
            rw [← HS7.out] at ho9
            obtain ⟨hK9, hf9⟩ := app_new HA2.out Hf7.out hk9 hm9
            have hap7 : ∀ g, (Value.slice A7 n7 c7).ownBlock = some g → (Value.slice A8 n8 c8).ownBlock ≠ some g := fun g h1 h2 => Hap8.out g h2 h1
            have ho89 := (ho8.alloc (.cells #[.int .u8 (bits .xor .u8 (y.toNat : Int) 92)] 5)).kept hk9 (fun g hg hin => hap7 g (by simpa using hin) hg)
            have hap9 := apart_step hm9 (fun g hg => by obtain ⟨_, _, _, _, _, hh⟩ := (ho8.alloc (.cells #[.int .u8 (bits .xor .u8 (y.toNat : Int) 92)] 5)).form; exact hh g hg) hap7
            obtain ⟨A9, n9, c9, rfl, _, _⟩ := ho9.form
            have Hf9 := Lib.hid hf9
            have Hap9 : Hid (∀ g, (Value.slice A8 n8 c8).ownBlock = some g → (Value.slice A9 n9 c9).ownBlock ≠ some g) := Lib.hid (fun g h1 h2 => hap9 g h2 h1)
            clear hf9 hap9 hap7 hk9 hm9 HA2 ho8 ho78 hK8 Hf7 Hap8 HS7 L7 c2 c0
            go_wp2
            go_roundw
            case rel => exact ⟨k + 1, A8, n8, c8, A9, n9, c9, by omega, by go_num, rfl, rfl, ho89, ho9, hK9, Hf8, Hf9, Hap9⟩
            case measure => simp [intOf]; omega
          · obtain rfl : k = 64 := by omega
            rw [List.take_of_length_le (by have := Hl4.out; omega)] at ho6 ho7
            have hKw := hK4.andThen hK6
            have hp6 := hp1.kept0 hKw
            have hR6 := hR1.kept0 hKw
            have L6 : Hid ((hx 54 (hkey key)).length = 64) := Lib.hid (hxk_length _ _)
            have L7 : Hid ((hx 92 (hkey key)).length = 64) := Lib.hid (hxk_length _ _)
            clear hr4 hlt hk
            go_wp2_with (at_builtin; refine wpList_append_bytes rfl (.tmp 46) (.tmp 47) 26 rfl 5 i0 _ 1 Tryd.underlying26 hi hz0 hz1 hz2 rfl (.slice A6 n6 c6) _ rfl ho6 A' n' c' text rfl hp6 (by rw [L6.out]; simp only [maxLen]; omega) (by rw [L6.out]; omega) ?_)
            intro v8 w8 ho8 hk8 hm8
            obtain ⟨hK8, hf8⟩ := app_new hK6 Hf6.out hk8 hm8
            have ho78 := ho7.kept hk8 (fun g hg hin => Hap.out g (by simpa using hin) hg)
            obtain ⟨A8, n8, c8, rfl, hr8, _⟩ := ho8.form
            have hn8 : n8 ≤ 1000000 := by have := hr8.len; rw [List.length_append, L6.out, Hlt.out] at this; omega
            have hKw8 := hK4.andThen hK8
            clear ho6 ho7 hk8 hm8 hf8 hK6 hKw hp6 hR6 ho8 Hap Hf6
            go_wp2_with fail
            refine (rSum_any A8 n8 c8 _ _ hr8 hn8).mono ?_
            rintro e w9 ⟨rfl, hk9⟩
            have ho79 := ho78.kept0 hk9
            have hK9 := hK8.andThen hk9
            have hKw9 := hKw8.andThen hk9
            have hd9 := shaSum_length (hx 54 (hkey key) ++ text)
            have HT := Lib.hid (hTag_eq key text)
            clear ho78 hk9 hr8 hK8 hKw8
            generalize shaSum (hx 54 (hkey key) ++ text) = dg at *
            go_wp2_with fail
            refine (rBytes_any dg _ hd9).mono ?_
            rintro e w10 ⟨v10, rfl, ho10, hk10, hf10⟩
            obtain ⟨A10, n10, c10, rfl, hr10, _⟩ := ho10.form
            have hn10 : n10 = 32 := by have := hr10.len; omega
            subst hn10
            have ho710 := ho79.kept0 hk10
            have hK10 := hK9.andThen hk10
            have hKw10 := hKw9.andThen hk10
            clear ho79 hk10 hK9 hKw9 hf10 ho10
            go_wp2_with (at_builtin; refine wpList_append_bytes rfl (.tmp 49) (.tmp 52) 26 rfl 5 i0 _ 1 Tryd.underlying26 hi hz0 hz1 hz2 rfl (.slice A7 n7 c7) _ rfl ho710 A10 32 c10 dg rfl hr10 (by rw [L7.out]; simp only [maxLen]; omega) (by rw [L7.out]; omega) ?_)
            intro v11 w11 ho11 hk11 hm11
            obtain ⟨hK11, hf11⟩ := app_new hK10 Hf7.out hk11 hm11
            obtain ⟨A11, n11, c11, rfl, hr11, _⟩ := ho11.form
            have hn11 : n11 ≤ 1000000 := by have := hr11.len; rw [List.length_append, L7.out, hd9] at this; omega
            have hKw11 := hK4.andThen hK11
            clear ho710 hk11 hm11 hf11 hK10 hKw10 ho11 hr10 Hf7
            go_wp2_with fail
            refine (rSum_any A11 n11 c11 _ _ hr11 hn11).mono ?_
            rw [← HT.out]
            rintro e w12 ⟨rfl, hk12⟩
            have hR12 := (hR1.kept0 hKw11).kept0 hk12
            have hK12 := (hk1.andThen hKw11).andThen hk12
            have ht := hTag_length key text
            clear hr11 hKw11 hK11 hk12 hR1
            go_wp2_with (with_reducible change wpList _ _ _ (⟨_, Op.store _ _ _, _, _, _, _⟩ :: _) _ _; refine wpList_store_blk rfl 23 (.tmp 4) (.tmp 55) rfl g4 (bvs (hTag key text)) rfl rfl 23 (zb 32) hR12 (size_of_len size32 ht) (zb_len ht) (bvs_one _) ?_)
            intro w13 hR13 hk13 hs13
            go_wp2
            refine bodyPost_ret (results_blk rfl _ g4 23 _ _ rfl hR13 Tryd.underlying23 rfl (size_of_len size32 ht)) rfl ?_
            exact ⟨rfl, hK12.trans hk13 (by simp; omega)⟩
end Go.Proofs.YtibcjbelcplpjaaDoor
/-
  A region whose operations come in any order that its edges allow, step by step: loads of arrays and structs are taken first, what is left comes one by one. Nothing of the program here.
-/
namespace Go.Proofs.YtibcjbelcplpjaaDoor
open Go Go.RowKit
set_option linter.unusedVariables false
section
variable {P : Program} {ops : Array Oper} {Q : Exit → Act → World → Prop} {S : World → Prop} {md : Region.Mode}

/-- The beginning. -/
theorem wp_region_begin {id : Nat} {a : Act} {w : World} (S : World → Prop) (hm : P.follows .mixedOrders = true)
    (h : wpAnyH P .any ops (NoPanic Q) S ops.size (Array.replicate ops.size false) a w.drew) : (Code.region id ops true).wp P Q a w :=
  wp_region_noPanic (wp_region_held hm h)
/-- An array or a struct, loaded whole, taken first. -/
theorem held_load (i : Nat) {oi : Oper} {fuel : Nat} {listed : Array Bool} {a : Act} {w : World} (hi : ops[i]? = some oi) (hs : Region.noSelect ops = true) (hf : Region.free md ops listed i = true) (hr : (Region.ready md ops listed).contains i = true)
    (hw : Region.wanted oi (yielded ops a.tmps) = true) (ty : TypeId) (x : Operand) (ho : oi.op = .load ty x) (b o : Nat) (hx : a.eval x = .pointer (some ⟨b, o, none⟩)) (cs : List Value) (d : TypeDesc)
    (hS : ∀ w, S w → w.rangeAt b o cs) (hu : P.underlying ty = some d) (hd : d.isRow = true) (hz : (P.info? ty).map (·.size) = some cs.length) (hSw : S w)
    (h : wpAnyH P md ops (NoPanic Q) S fuel (listed.setIfInBounds i true) (a.put oi.dst (.agg cs.toArray)) w) : wpAnyH P md ops (NoPanic Q) S (fuel + 1) listed a w :=
  wpAnyH_take hi hs hf hr (fun _ _ _ h => h) (yieldsIf_load_mid hw ty x ho b o hx cs d hS hu hd hz) hSw h
/-- What only reckons, taken first. -/
theorem held_pure (i : Nat) {oi : Oper} {fuel : Nat} {listed : Array Bool} {a : Act} {w : World} (v : Value) (hi : ops[i]? = some oi) (hs : Region.noSelect ops = true) (hf : Region.free md ops listed i = true) (hr : (Region.ready md ops listed).contains i = true)
    (hw : Region.wanted oi (yielded ops a.tmps) = true) (hv : ∀ w, S w → (execOp a.eval oi).run P w = .ok (.value v) w) (hSw : S w)
    (h : wpAnyH P md ops (NoPanic Q) S fuel (listed.setIfInBounds i true) (a.put oi.dst v) w) : wpAnyH P md ops (NoPanic Q) S (fuel + 1) listed a w :=
  wpAnyH_take hi hs hf hr (fun _ _ _ h => h) (.inl ⟨hw, hv⟩) hSw h
/-- The only one that may come next. -/
theorem held_one (i : Nat) {oi : Oper} {fuel : Nat} {listed : Array Bool} {a : Act} {w : World} (hr : Region.ready md ops listed = [i]) (hi : ops[i]? = some oi)
    (h : wpList P ops (Exit.then (fun a' w' => S w' ∧ wpAnyH P md ops Q S fuel (listed.setIfInBounds i true) a' w') Q) [oi] a w) : wpAnyH P md ops Q S (fuel + 1) listed a w :=
  wpAnyH_all hr (by simp) (fun j hj => by
    obtain rfl : j = i := by simpa using hj
    exact wpOp_of_list hi h)
/-- All are done. -/
theorem held_done {listed : Array Bool} {a : Act} {w : World} {fuel : Nat} (hr : Region.ready md ops listed = []) (h : Q .normal a w) : wpAnyH P md ops (NoPanic Q) S fuel listed a w :=
  wpAnyH_done hr (NoPanic.normal h) fuel
end
end Go.Proofs.YtibcjbelcplpjaaDoor
/-
  Operations that only reckon, as one equation each, for regions that are walked step by step. Nothing of the program here.
-/
namespace Go.Proofs.YtibcjbelcplpjaaDoor
open Go Go.RowKit
set_option linter.unusedVariables false
section
variable {P : Program} {ops : Array Oper} {Q : Exit → Act → World → Prop} {S : World → Prop} {md : Region.Mode}
/-- As held_load, the slot named. -/
theorem held_loadD (i d : Nat) {oi : Oper} {fuel : Nat} {listed : Array Bool} {a : Act} {w : World} (hi : ops[i]? = some oi) (hdst : oi.dst = some d) (hs : Region.noSelect ops = true) (hf : Region.free md ops listed i = true) (hr : (Region.ready md ops listed).contains i = true)
    (hw : Region.wanted oi (yielded ops a.tmps) = true) (ty : TypeId) (x : Operand) (ho : oi.op = .load ty x) (b o : Nat) (hx : a.eval x = .pointer (some ⟨b, o, none⟩)) (cs : List Value) (u : TypeDesc)
    (hS : ∀ w, S w → w.rangeAt b o cs) (hu : P.underlying ty = some u) (hd : u.isRow = true) (hz : (P.info? ty).map (·.size) = some cs.length) (hSw : S w)
    (h : wpAnyH P md ops (NoPanic Q) S fuel (listed.setIfInBounds i true) (a.put (some d) (.agg cs.toArray)) w) : wpAnyH P md ops (NoPanic Q) S (fuel + 1) listed a w :=
  held_load i hi hs hf hr hw ty x ho b o hx cs u hS hu hd hz hSw (by rw [hdst]; exact h)
/-- As held_pure, the slot named. -/
theorem held_pureD (i d : Nat) {oi : Oper} {fuel : Nat} {listed : Array Bool} {a : Act} {w : World} (v : Value) (hi : ops[i]? = some oi) (hdst : oi.dst = some d) (hs : Region.noSelect ops = true) (hf : Region.free md ops listed i = true) (hr : (Region.ready md ops listed).contains i = true)
    (hw : Region.wanted oi (yielded ops a.tmps) = true) (hv : ∀ w, S w → (execOp a.eval oi).run P w = .ok (.value v) w) (hSw : S w)
    (h : wpAnyH P md ops (NoPanic Q) S fuel (listed.setIfInBounds i true) (a.put (some d) v) w) : wpAnyH P md ops (NoPanic Q) S (fuel + 1) listed a w :=
  held_pure i v hi hs hf hr hw hv hSw (by rw [hdst]; exact h)
end
section
variable {P : Program} {o : Oper} {ev : Operand → Value}
theorem pure_conv (src dst : TypeId) (x : Operand) (ho : o.op = .convert src dst x) (q k : IntKind) (z r : Int) (hx : ev x = .int q z) (hs : (P.underlying src).isSome = true) (hd : P.underlying dst = some (.int k)) (hr : k.wrap z = r) (w : World) :
    (execOp ev o).run P w = .ok (.value (.int k r)) w := by
  obtain ⟨d, hd'⟩ := Option.isSome_iff_exists.mp hs
  unfold execOp
  simp only [ho, hx]
  simp [convert, run_underlying hd', run_underlying hd, Conv.intToInt, hr]
theorem pure_add (t u : TypeId) (x y : Operand) (ho : o.op = .binOp .add t x y u) (k : IntKind) (a b r : Int) (hx : ev x = .int k a) (hy : ev y = .int k b) (hr : k.wrap (a + b) = r) (w : World) :
    (execOp ev o).run P w = .ok (.value (.int k r)) w := by
  unfold execOp
  simp only [ho, hx, hy]
  simp [eqGuard, binOp, Op.intArith, hr]
theorem pure_quo (t u : TypeId) (x y : Operand) (ho : o.op = .binOp .quo t x y u) (k : IntKind) (a b r : Int) (hx : ev x = .int k a) (hy : ev y = .int k b) (hb : b ≠ 0) (hr : k.wrap (a.tdiv b) = r) (w : World) :
    (execOp ev o).run P w = .ok (.value (.int k r)) w := by
  unfold execOp
  simp only [ho, hx, hy]
  simp [eqGuard, binOp, Op.intDiv, hb, hr]
theorem pure_cut (t : TypeId) (x : Operand) (lo hi : Option Operand) (ho : o.op = .slice t x lo hi none) (A : Option Addr) (n c : Nat) (u : Value) (hx : ev x = .slice A n c) (e : TypeId) (ht : P.underlying t = some (.slice e)) (w : World)
    (h : (Instr.slice t (.slice A n c) (lo.map ev) (hi.map ev) none).run P w = .ok u w) : (execOp ev o).run P w = .ok (.value u) w := by
  unfold execOp
  simp only [ho, hx]
  simp [Instr.sliceAt, run_underlying ht, h]
end
end Go.Proofs.YtibcjbelcplpjaaDoor
/-
  A region whose operations come in any order, step by step, going on: an operation that is not wanted, two that may come next, a cell that is loaded. Nothing of the program here.
-/
namespace Go.Proofs.YtibcjbelcplpjaaDoor
open Go Go.RowKit
set_option linter.unusedVariables false
section
variable {P : Program} {ops : Array Oper} {Q : Exit → Act → World → Prop} {S : World → Prop} {md : Region.Mode}
/-- What is not wanted. -/
theorem held_skipD (i d : Nat) {oi : Oper} {fuel : Nat} {listed : Array Bool} {a : Act} {w : World} (hi : ops[i]? = some oi) (hdst : oi.dst = some d) (hs : Region.noSelect ops = true) (hf : Region.free md ops listed i = true) (hr : (Region.ready md ops listed).contains i = true)
    (hw : Region.wanted oi (yielded ops a.tmps) = false) (hSw : S w)
    (h : wpAnyH P md ops (NoPanic Q) S fuel (listed.setIfInBounds i true) (a.put (some d) undef) w) : wpAnyH P md ops (NoPanic Q) S (fuel + 1) listed a w :=
  wpAnyH_take (v := undef) hi hs hf hr (fun _ _ _ h => h) (.inr ⟨hw, rfl⟩) hSw (by rw [hdst]; exact h)
/-- Two that may come next. -/
theorem held_two (i j : Nat) {oi oj : Oper} {fuel : Nat} {listed : Array Bool} {a : Act} {w : World} (hr : Region.ready md ops listed = [i, j]) (hi : ops[i]? = some oi) (hj : ops[j]? = some oj)
    (h1 : wpList P ops (Exit.then (fun a' w' => S w' ∧ wpAnyH P md ops Q S fuel (listed.setIfInBounds i true) a' w') Q) [oi] a w)
    (h2 : wpList P ops (Exit.then (fun a' w' => S w' ∧ wpAnyH P md ops Q S fuel (listed.setIfInBounds j true) a' w') Q) [oj] a w) : wpAnyH P md ops Q S (fuel + 1) listed a w :=
  wpAnyH_all hr (by simp) (fun x hx => by
    have : x = i ∨ x = j := by simpa using hx
    rcases this with rfl | rfl
    · exact wpOp_of_list hi h1
    · exact wpOp_of_list hj h2)
end
end Go.Proofs.YtibcjbelcplpjaaDoor
/-
  Contracts of layer 13, the document's own: bytes with their tag, Put. No statement of the seed is proved here.
-/
namespace Go.Proofs.YtibcjbelcplpjaaDoor
open Go.RowKit
set_option linter.unusedVariables false

set_option maxRecDepth 100000 in
set_option maxHeartbeats 2000000 in
theorem rTd_any (key : List UInt8) (A : Option Addr) (n c : Nat) (bs : List UInt8) (w : World) (hkl : key.length = 32) (hr : RdB w A n c bs) (hn : n ≤ 100000) :
    Calls Tryd.prog 23 #[.agg (bvs key).toArray, .slice A n c] w (CloneRet (bs ++ hTag key bs) w) := by
  have hB := Blk.new w 23 (bvs key)
  have hk : Kept [] w (w.alloc (.cells (bvs key).toArray 23)) := (Kept.refl [] w).alloc _
  obtain ⟨w1, hw1⟩ : ∃ w1, w1 = w.alloc (.cells (bvs key).toArray 23) := ⟨_, rfl⟩
  rw [← hw1] at hB hk
  obtain ⟨a, ha⟩ : ∃ a, a = w.heap.size := ⟨_, rfl⟩
  rw [← ha] at hB
  have W1 := Lib.hid hw1
  have A0 := Lib.hid ha
  have HA := Lib.hid hB
  have HK1 := Lib.hid hk
  have Hsk := Lib.hid (size_of_len (P := Tryd.prog) (ty := 23) size32 hkl)
  have HR := Lib.hid hr
  have Hkl := Lib.hid hkl
  obtain ⟨D, hD⟩ : ∃ D, hTag key bs = D := ⟨_, rfl⟩
  have HDl : Hid (D.length = 32) := Lib.hid (by rw [← hD]; exact hTag_length _ _)
  have Hsd := Lib.hid (size_of_len (P := Tryd.prog) (ty := 23) size32 HDl.out)
  have Hod := Lib.hid (bvs_one D)
  have Hzd : Hid ((zb 32).length = (bvs D).length) := Lib.hid (by rw [zb_length, bvs_length, HDl.out])
  rw [hD]
  have HD := Lib.hid hD
  clear hB hk hw1 ha hr hkl hD
  go_enter Tryd.func23, Tryd.ntmps23
  go_wp2_with (first
    | (with_reducible change wpList _ _ _ (⟨_, Op.box _ _, _, _, _, _⟩ :: _) _ _; refine Great.wpList_boxTo rfl 23 _ rfl _ rfl a A0.out.symm (bvs key).toArray rfl ?_; rw [← W1.out])
    | (with_reducible change wpList _ _ _ (⟨_, Op.load _ _, _, _, _, _⟩ :: _) _ _; refine wpList_load_blk rfl 23 (.tmp 2) rfl a rfl 23 _ _ HA.out arr32b rfl Hsk.out ?_))
  refine (rBytes_any key _ Hkl.out).mono ?_
  rintro e w2 ⟨v2, rfl, ho2, hk2, hf2⟩
  obtain ⟨A2, n2, c2, rfl, hr2, _⟩ := ho2.form
  obtain rfl : 32 = n2 := by rw [← hr2.len, Hkl.out]
  have HR2 := Lib.hid hr2
  have HK2 := Lib.hid (HK1.out.andThen hk2)
  clear ho2 hk2 hf2 hr2
  go_wp2_with fail
  refine (rTag_any A2 A 32 c2 n c key bs _ HR2.out (HR.out.kept0 HK2.out) (by omega) hn).mono ?_
  rw [HD.out]
  rintro e w3 ⟨rfl, hk3⟩
  have HK3 := Lib.hid (HK2.out.andThen hk3)
  clear hk3 HR2 HK2
  go_wp2_with (with_reducible change wpList _ _ _ (⟨_, Op.alloc _, _, _, _, _⟩ :: _) _ _; refine wpList_alloc_blk rfl 23 rfl _ zero32 ?_)
  intro w4 hD4 hk4 hs4
  obtain ⟨d, hd⟩ : ∃ d, d = w3.heap.size := ⟨_, rfl⟩
  rw [← hd] at hD4 ⊢
  have Hd : Hid (w.heap.size ≤ d) := Lib.hid (by have := HK3.out.size; omega)
  have HK4 := Lib.hid (HK3.out.andThen hk4)
  clear hd hs4 hk4
  go_wp2_with (with_reducible change wpList _ _ _ (⟨_, Op.store _ _ _, _, _, _, _⟩ :: _) _ _; refine wpList_store_blk rfl 23 (.tmp 5) (.tmp 9) rfl d (bvs D) rfl rfl 23 (zb 32) hD4 Hsd.out Hzd.out Hod.out ?_)
  intro w5 hD5 hk5 hs5
  have HK5 : Hid (Kept [] w w5) := Lib.hid (HK4.out.trans hk5 (fun i hi => .inr (by have := List.mem_singleton.1 hi; have := Hd.out; omega)))
  have HD5 := Lib.hid hD5
  clear hD4 hk5 hs5 hD5 HK4
  go_wp2_with (with_reducible change wpList _ _ _ (⟨_, Op.load _ _, _, _, _, _⟩ :: _) _ _; refine wpList_load_blk rfl 23 (.tmp 5) rfl d rfl 23 _ _ HD5.out arr32b rfl Hsd.out ?_)
  refine (rBytes_any D _ HDl.out).mono ?_
  rintro e w6 ⟨v6, rfl, ho6, hk6, hf6⟩
  obtain ⟨A6, n6, c6, rfl, hr6, _⟩ := ho6.form
  obtain rfl : 32 = n6 := by rw [← hr6.len, HDl.out]
  have HR6 := Lib.hid hr6
  have HK6 := Lib.hid (HK5.out.andThen hk6)
  clear ho6 hk6 hf6 hr6
  go_wp2_with fail
  refine (rJoin_any A A6 n c 32 c6 bs D _ (HR.out.kept0 HK6.out) HR6.out (by omega) (by omega)).mono ?_
  rintro e w7 ⟨v7, rfl, ho7, hk7, hf7⟩
  have HO7 := Lib.hid ho7
  have HK7 := Lib.hid (HK6.out.andThen hk7)
  have HF7 : Hid (∀ q, v7.ownBlock = some q → w.heap.size ≤ q) := Lib.hid (fun q hq => by have h1 := hf7 q hq; have h2 := HK6.out.size; omega)
  obtain ⟨A7, n7, c7, rfl, _, _⟩ := ho7.form
  clear ho7 hk7 hf7
  go_wp2
  go_ret
  exact ⟨_, rfl, HO7.out, HK7.out, HF7.out⟩

set_option maxRecDepth 100000 in
set_option maxHeartbeats 4000000 in
theorem rPt_any (key : List UInt8) (f : Fr) (A : Option Addr) (n c : Nat) (w : World) (hkl : key.length = 32) (h : FrAt w f A n c) :
    Calls Tryd.prog 10 #[.agg (bvs key).toArray, .agg (frc f A n c).toArray] w (RefRet (frPut key f).1 (frPut key f).2 w) := by
  obtain ⟨w1, hw1⟩ : ∃ w1, w1 = w.alloc (.cells (bvs key).toArray 23) := ⟨_, rfl⟩
  obtain ⟨w2, hw2⟩ : ∃ w2, w2 = w1.alloc (.cells (frc f A n c).toArray 28) := ⟨_, rfl⟩
  obtain ⟨a, ha⟩ : ∃ a, a = w.heap.size := ⟨_, rfl⟩
  obtain ⟨g, hg⟩ : ∃ g, g = w1.heap.size := ⟨_, rfl⟩
  have hA : Blk w1 a 23 (bvs key) := by rw [hw1, ha]; exact Blk.new w 23 (bvs key)
  have hk1 : Kept [] w w1 := by rw [hw1]; exact (Kept.refl [] w).alloc _
  have hk2 : Kept [] w1 w2 := by rw [hw2]; exact (Kept.refl [] w1).alloc _
  have hG : FrB w2 g f A n c := by rw [hw2, hg]; exact FrB.new w1 f A n c h.obj
  have HA := Lib.hid (hA.kept0 hk2)
  have HG := Lib.hid hG.blk
  have HK2 := Lib.hid (hk1.andThen hk2)
  have HFA := Lib.hid h
  have Hsk := Lib.hid (size_of_len (P := Tryd.prog) (ty := 23) size32 hkl)
  have Hsf := Lib.hid (frc_size (A := A) (n := n) (c := c) h.obj)
  have Hkl := Lib.hid hkl
  have W1 := Lib.hid hw1
  have W2 := Lib.hid hw2
  have A0 := Lib.hid ha
  have G0 := Lib.hid hg
  have HRi : Hid (∀ W, FrAt W f A n c → Calls Tryd.prog 14 #[.agg (frc f A n c).toArray] W fun e w' => e = .returned (.bool (frRight f)) ∧ Kept [] W w') := Lib.hid (fun W hW => rRi_any f A n c W hW)
  have HPl : Hid (∀ W, FrAt W f A n c → frRight f = true → Calls Tryd.prog 24 #[.agg (frc f A n c).toArray] W (CloneRet (frPlain f) W)) := Lib.hid (fun W hW hr => rPl_any f A n c W hW hr)
  have SK : Hid (∀ W, Kept [] w2 W → W.rangeAt a 0 (bvs key) ∧ W.rangeAt g 0 (frc f A n c)) := Lib.hid (fun W hk => ⟨(HA.out.kept0 hk).rangeOf, (HG.out.kept0 hk).rangeOf⟩)
  obtain ⟨L, hL⟩ : ∃ L, frc f A n c = L := ⟨_, rfl⟩
  rw [hL] at HG Hsf W2 HRi HPl SK ⊢
  clear hw1 hw2 ha hg hA hk1 hk2 hG h hkl hL
  cases hR : frRight f with
  | false =>
    rw [frPut_no hR]
    rw [hR] at HRi
    clear hR SK HPl
    go_enter Tryd.func10, Tryd.ntmps10
    go_wp2_with (first
      | (with_reducible change wpList _ _ _ (⟨_, Op.box 23 _, _, _, _, _⟩ :: _) _ _; refine Great.wpList_boxTo rfl 23 _ rfl _ rfl a A0.out.symm (bvs key).toArray rfl ?_; rw [← W1.out])
      | (with_reducible change wpList _ _ _ (⟨_, Op.box 28 _, _, _, _, _⟩ :: _) _ _; refine Great.wpList_boxTo rfl 28 _ rfl _ rfl g G0.out.symm L.toArray rfl ?_; rw [← W2.out])
      | (with_reducible change wpList _ _ _ (⟨_, Op.load _ _, _, _, _, _⟩ :: _) _ _; refine wpList_load_blk rfl 28 (.tmp 3) rfl g rfl 28 _ _ HG.out Tryd.underlying28 rfl Hsf.out ?_))
    refine (HRi.out _ (HFA.out.kept0 HK2.out)).mono ?_
    rintro e w3 ⟨rfl, hk3⟩
    have HK3 := Lib.hid (HK2.out.andThen hk3)
    clear hk3
    go_wp2
    go_ret2
    exact ⟨_, rfl, OwB.nil _ _, HK3.out, by simp [Value.ownBlock]⟩
  | true =>
    rw [frPut_ok hR]
    obtain ⟨X, hX⟩ : ∃ X, frPlain f = X := ⟨_, rfl⟩
    have HXl : Hid (X.length ≤ 1200) := Lib.hid (by
      rw [← hX, frPlain_length HFA.out.obj]
      have := (frRight_facts hR).2.2.2
      have hf : fol f.piece.length ≤ 8 := by unfold fol; split; omega; exact (wid_pos _).2
      omega)
    rw [hR] at HRi HPl
    rw [hX] at HPl ⊢
    clear hX hR
    go_enter Tryd.func10, Tryd.ntmps10
    go_wp2_with (first
      | (with_reducible change wpList _ _ _ (⟨_, Op.box 23 _, _, _, _, _⟩ :: _) _ _; refine Great.wpList_boxTo rfl 23 _ rfl _ rfl a A0.out.symm (bvs key).toArray rfl ?_; rw [← W1.out])
      | (with_reducible change wpList _ _ _ (⟨_, Op.box 28 _, _, _, _, _⟩ :: _) _ _; refine Great.wpList_boxTo rfl 28 _ rfl _ rfl g G0.out.symm L.toArray rfl ?_; rw [← W2.out])
      | (with_reducible change wpList _ _ _ (⟨_, Op.load _ _, _, _, _, _⟩ :: _) _ _; refine wpList_load_blk rfl 28 (.tmp 3) rfl g rfl 28 _ _ HG.out Tryd.underlying28 rfl Hsf.out ?_))
    refine (HRi.out _ (HFA.out.kept0 HK2.out)).mono ?_
    rintro e w3 ⟨rfl, hk3⟩
    go_wp2
    have hHeld := SK.out _ hk3.drew
    refine wp_region_begin (fun W => W.rangeAt a 0 (bvs key) ∧ W.rangeAt g 0 L) (by kernel_rfl) ?_
    refine held_loadD 0 9 rfl rfl (by kernel_rfl) (by kernel_rfl) (by kernel_rfl) rfl 23 (.tmp 2) rfl a 0 rfl (bvs key) _ (fun w h => h.1) arr32b rfl Hsk.out hHeld ?_
    simp only [Act.put, List.setIfInBounds_toArray, List.set_cons_succ, List.set_cons_zero]
    refine held_loadD 1 10 rfl rfl (by kernel_rfl) (by kernel_rfl) (by kernel_rfl) rfl 28 (.tmp 3) rfl g 0 rfl L _ (fun w h => h.2) Tryd.underlying28 rfl Hsf.out hHeld ?_
    simp only [Act.put, List.setIfInBounds_toArray, List.set_cons_succ, List.set_cons_zero]
    refine held_one 2 (by kernel_rfl) rfl ?_
    go_wp2_with fail
    refine (HPl.out _ (HFA.out.kept0 (HK2.out.andThen hk3.drew)) trivial).mono ?_
    rintro e w4 ⟨v4, rfl, ho4, hk4, hf4⟩
    obtain ⟨A4, n4, c4, rfl, hr4, _⟩ := ho4.form
    have hK4 := hk3.drew.andThen hk4
    have HR4 := Lib.hid hr4
    have hn4 : n4 ≤ 1200 := by rw [← hr4.len]; exact HXl.out
    clear ho4 hk4 hf4 hr4
    go_wp2
    change _ ∧ wpAnyH _ _ _ _ _ _ _ _ _
    refine ⟨SK.out _ hK4, ?_⟩
    refine held_one 3 (by kernel_rfl) rfl ?_
    go_wp2_with fail
    refine (rTd_any key A4 n4 c4 X _ Hkl.out HR4.out (by omega)).mono ?_
    rintro e w5 ⟨v5, rfl, ho5, hk5, hf5⟩
    obtain ⟨A5, n5, c5, rfl, _, _⟩ := ho5.form
    have hK5 := hK4.andThen hk5
    have HO5 := Lib.hid ho5
    have HF5 : Hid (∀ q, (Value.slice A5 n5 c5).ownBlock = some q → w.heap.size ≤ q) := Lib.hid (fun q hq => by have h1 := hf5 q hq; have h2 := hK4.size; have h3 := HK2.out.size; omega)
    clear ho5 hk5 hf5
    go_wp2
    change _ ∧ wpAnyH _ _ _ _ _ _ _ _ _
    refine ⟨SK.out _ hK5, ?_⟩
    refine held_one 4 (by kernel_rfl) rfl ?_
    go_wp2
    change _ ∧ wpAnyH _ _ _ _ _ _ _ _ _
    refine ⟨SK.out _ hK5, ?_⟩
    refine held_one 5 (by kernel_rfl) rfl ?_
    go_wp2
    change _ ∧ wpAnyH _ _ _ _ _ _ _ _ _
    refine ⟨SK.out _ hK5, ?_⟩
    refine held_done (by kernel_rfl) ?_
    go_wp2
    go_ret2
    exact ⟨_, rfl, HO5.out, HK2.out.andThen hK5, HF5.out⟩
end Go.Proofs.YtibcjbelcplpjaaDoor
/-
  Operations that only read or reckon, as one equation each, going on: a byte's address, a cell, a build. No statement of the seed is proved here.
-/
namespace Go.Proofs.YtibcjbelcplpjaaDoor
open Go Go.RowKit
set_option linter.unusedVariables false
section
variable {P : Program} {o : Oper} {ev : Operand → Value}
theorem pureC (ty : TypeId) (x : Operand) (ho : o.op = .load ty x) (a : Addr) (u : Value) (hx : ev x = .pointer (some a)) (hagg : ∀ w, (isAgg ty).run P w = .ok false w) (w : World) (hc : w.cell? a = some u) :
    (execOp ev o).run P w = .ok (.value u) w := by
  unfold execOp
  simp only [ho, hx]
  simp [Instr.loadAt, Instr.sureAddr, loadVar, hagg, hc]
/-- What only reckons, in a row of operations. -/
theorem wpList_val {ops : Array Oper} {rest : List Oper} {a : Act} {w : World} {Q : Exit → Act → World → Prop} (hgd : o.guard = none) (v : Value) (hv : (execOp a.eval o).run P w = .ok (.value v) w) (h : wpList P ops Q rest (a.put o.dst v) w) : wpList P ops Q (o :: rest) a w := by
  refine wpList_plain hgd fun K hK => ?_
  unfold Oper.wp
  rw [hv]
  exact hK _ _ h
theorem pureStrEq (t u : TypeId) (x y : Operand) (ho : o.op = .binOp .eql t x y u) (s1 s2 : ByteArray) (hx : ev x = .string s1) (hy : ev y = .string s2) (r : Bool) (h : (s1.toList == s2.toList) = r) (w : World) : (execOp ev o).run P w = .ok (.value (.bool r)) w := by
  unfold execOp
  simp only [ho, hx, hy]
  simp [eqGuard, binOp, Op.stringOp, h]
theorem pureNeI (t u : TypeId) (x y : Operand) (ho : o.op = .binOp .neq t x y u) (a b : Int) (hx : ev x = .int .i64 a) (hy : ev y = .int .i64 b) (r : Bool) (h : (a != b) = r) (w : World) : (execOp ev o).run P w = .ok (.value (.bool r)) w := by
  unfold execOp
  simp only [ho, hx, hy]
  simp [eqGuard, binOp, Op.intCmp, h]
theorem pureBd (t : TypeId) (parts : Array (Nat × Operand)) (ho : o.op = .build t parts) (cs : Array Value) (hf : P.built t (parts.map fun (i, x) => (i, ev x)).toList = some cs) (w : World) :
    (execOp ev o).run P w = .ok (.value (.agg cs)) w := by
  unfold execOp
  simp only [ho]
  rw [Sem.run_bind, run_build w t _ cs hf]
  rfl
end
theorem pureIxB {o : Oper} {ev : Operand → Value} (x y : Operand) (ho : o.op = .indexAddr 26 x y) (b off n c j : Nat) (hx : ev x = .slice (some ⟨b, off, none⟩) n c) (hy : ev y = .int .i64 (j : Int)) (hj : j < n) (w : World) :
    (execOp ev o).run Tryd.prog w = .ok (.value (.pointer (some ⟨b, off + j, none⟩))) w := by
  obtain ⟨i, hi, _, hsz, _⟩ := info_parts u8info
  unfold execOp
  simp only [ho, hx, hy]
  simp [Instr.indexAt, run_underlying Tryd.underlying26, asIntOf, sizeOf, typeInfo, hi, hsz, addr_add, hj]
theorem pureByte {o : Oper} {ev : Operand → Value} (x : Operand) (ho : o.op = .load 5 x) (a : Addr) (u : Value) (hx : ev x = .pointer (some a)) (w : World) (hc : w.cell? a = some u) : (execOp ev o).run Tryd.prog w = .ok (.value u) w :=
  pureC 5 x ho a u hx (fun w => by kernel_rfl) w hc
theorem pureU8I {o : Oper} {ev : Operand → Value} (T : TypeId) (x : Operand) (ho : o.op = .convert 5 T x) (b : UInt8) (hx : ev x = .int .u8 (b.toNat : Int)) (hs : Tryd.prog.underlying T = some (.int .i64)) (w : World) :
    (execOp ev o).run Tryd.prog w = .ok (.value (.int .i64 (b.toNat : Int))) w :=
  pure_conv 5 T x ho .u8 .i64 _ _ hx (by kernel_rfl) hs (by have := b.toNat_lt; rw [IntWalk.i64_in _ (by omega)]) w
end Go.Proofs.YtibcjbelcplpjaaDoor
/-
  Contracts of the document's own answers of layer 1: what is taken. No statement of the seed is proved here.
-/
namespace Go.Proofs.YtibcjbelcplpjaaDoor
open Go.RowKit
set_option linter.unusedVariables false

set_option maxHeartbeats 4000000 in
set_option maxRecDepth 100000 in
theorem rfTakeSmall_any (A : Option Addr) (n c : Nat) (bs : List UInt8) (a : Nat) (most : Int) (w : World) (hr : RdB w A n c bs) (ha : a ≤ n) (hn : n ≤ 1000000) (h0 : 0 ≤ most) :
    Calls Tryd.prog 53 #[.slice A n c, .int .i64 a, .int .u64 most] w (GotRet (tsm (bs.drop a) most.toNat).1 [] (tsm (bs.drop a) most.toNat).2.1 (tsm (bs.drop a) most.toNat).2.2 w) := by
  have hl := hr.len
  rcases Nat.lt_or_ge a n with hlt | hge
  · obtain ⟨b, off, y, rfl, c1, hy1, hy⟩ := hr.byte hlt
    have hbw : b < w.heap.size := World.block_lt_of_cell? w _ c1
    have hdrop : bs.drop a = y :: bs.drop (a + 1) := by
      obtain ⟨h1, h2⟩ := List.getElem?_eq_some_iff.1 hy1
      rw [List.drop_eq_getElem_cons h1, h2]
    have hrl : (bs.drop (a + 1)).length = n - a - 1 := by rw [List.length_drop]; omega
    rw [hdrop]
    by_cases h250 : y.toNat ≤ 250
    · have hn5 : ((y.toNat : Int) == 255) = false := by simp; omega
      clear hl hy1 hdrop hrl
      by_cases hm : most.toNat < y.toNat
      · have ht : tsm (y :: bs.drop (a + 1)) most.toNat = (0, 0, 3) := by unfold tsm; simp only; rw [if_neg (by omega), if_pos h250, if_pos hm]
        rw [ht]
        have hg : most < (y.toNat : Int) := by omega
        clear ht
        go_enter Tryd.func53, Tryd.ntmps53
        go_wp2
        exact bodyPost_ret (v := .agg #[.int .u64 0, .slice none 0 0, .int .i64 0, .int .i64 3]) (by simp [results, Tryd.results53, go_sem]) rfl (got_nil 0 0 3 rfl (((Kept.refl _ _).alloc _).alloc _))
      · have ht : tsm (y :: bs.drop (a + 1)) most.toNat = (y.toNat, 1, 0) := by unfold tsm; simp only; rw [if_neg (by omega), if_pos h250, if_neg hm]
        rw [ht]
        have hg : (y.toNat : Int) ≤ most := by omega
        clear ht
        go_enter Tryd.func53, Tryd.ntmps53
        go_wp2
        exact bodyPost_ret (v := .agg #[.int .u64 y.toNat, .slice none 0 0, .int .i64 1, .int .i64 0]) (by simp [results, Tryd.results53, go_sem]) rfl (got_nil _ 1 0 rfl (((Kept.refl _ _).alloc _).alloc _))
    · by_cases h5 : y.toNat = 255
      · have ht : tsm (y :: bs.drop (a + 1)) most.toNat = (0, 0, 2) := by unfold tsm; simp only; rw [if_pos h5]
        rw [ht]
        have hn5 : ((y.toNat : Int) == 255) = true := by simp; omega
        clear ht hl hy1 hdrop hrl h5
        go_enter Tryd.func53, Tryd.ntmps53
        go_wp2
        exact bodyPost_ret (v := .agg #[.int .u64 0, .slice none 0 0, .int .i64 0, .int .i64 2]) (by simp [results, Tryd.results53, go_sem]) rfl (got_nil 0 0 2 rfl ((Kept.refl _ _).alloc _))
      · have hn5 : ((y.toNat : Int) == 255) = false := by simp; omega
        obtain ⟨d, hd⟩ : ∃ d : Nat, y.toNat = 250 + d := ⟨y.toNat - 250, by omega⟩
        have hd1 : 1 ≤ d := by omega
        have hd4 : d ≤ 4 := by omega
        have c2 : w.cell? ⟨b, off + a, none⟩ = some (.int .u8 (250 + (d : Int))) := by rw [c1, hd]; simp
        have hn6 : (250 + (d : Int) == 255) = false := by simp; omega
        have ht0 : tsm (y :: bs.drop (a + 1)) most.toNat = if (bs.drop (a + 1)).length < d then (0, 0, 1) else if fol (num ((bs.drop (a + 1)).take d)) ≠ d then (0, 0, 2) else if most.toNat < num ((bs.drop (a + 1)).take d) then (0, 0, 3) else (num ((bs.drop (a + 1)).take d), 1 + d, 0) := by
          unfold tsm; simp only
          rw [if_neg h5, if_neg (by omega), hd, Nat.add_sub_cancel_left]
        rw [ht0, hrl]
        have hnum := num_lt ((bs.drop (a + 1)).take d)
        have hN2 : num ((bs.drop (a + 1)).take d) < 4294967296 := by
          have h2 : (256 : Nat) ^ ((bs.drop (a + 1)).take d).length ≤ 256 ^ 4 := Nat.pow_le_pow_right (by omega) (by rw [List.length_take]; omega)
          omega
        have hr2 := hr
        have hsub : 250 + (d : Int) - 250 = (d : Int) := by omega
        clear ht0 c1 hd hy1 hl h5 hdrop hn5 hnum hrl h250
        generalize hx : num ((bs.drop (a + 1)).take d) = x at *
        have HX := Lib.hid hx
        clear hx
        by_cases hs : n - a - 1 < d
        · rw [if_pos hs]
          have hg : (n : Int) - (a : Int) - 1 < (d : Int) := by omega
          go_enter Tryd.func53, Tryd.ntmps53
          go_wp2
          exact bodyPost_ret (v := .agg #[.int .u64 0, .slice none 0 0, .int .i64 0, .int .i64 1]) (by simp [results, Tryd.results53, go_sem]) rfl (got_nil 0 0 1 rfl (((Kept.refl _ _).alloc _).alloc _))
        · rw [if_neg hs]
          have hg : (d : Int) ≤ (n : Int) - (a : Int) - 1 := by omega
          by_cases hlo : x ≤ 250
          · have hf : fol x ≠ d := by unfold fol; rw [if_pos hlo]; omega
            rw [if_pos hf]
            clear hf
            have hlt2 : (x : Int) < 251 := by omega
            go_enter Tryd.func53, Tryd.ntmps53
            go_wp2_with fail
            refine (rfNumber_at _ n c bs (a + 1) d _ _ _ ((hr2.alloc _).alloc _) (by omega) (by omega) (by omega) (by omega) hn).mono ?_
            rintro e w' ⟨rfl, rfl⟩
            rw [HX.out]
            go_wp2
            exact bodyPost_ret (v := .agg #[.int .u64 0, .slice none 0 0, .int .i64 0, .int .i64 2]) (by simp [results, Tryd.results53, go_sem]) rfl (got_nil 0 0 2 rfl (((Kept.refl _ _).alloc _).alloc _))
          · have hd251 : decide ((x : Int) < 251) = false := by simp; omega
            have hd251' : decide (x < 251) = false := by simp; omega
            have hp8 := wid_pos x
            by_cases hwd : wid x = d
            · have hf : ¬ fol x ≠ d := by unfold fol; rw [if_neg hlo, hwd]; simp
              rw [if_neg hf]
              have hne : ((d : Int) != (d : Int)) = false := by simp
              have HW := Lib.hid hwd
              clear hwd hf hp8
              by_cases hm : most.toNat < x
              · rw [if_pos hm]
                have hgt : most < (x : Int) := by omega
                go_enter Tryd.func53, Tryd.ntmps53
                go_wp2_with fail
                refine (rfNumber_at _ n c bs (a + 1) d _ _ _ ((hr2.alloc _).alloc _) (by omega) (by omega) (by omega) (by omega) hn).mono ?_
                rintro e w' ⟨rfl, rfl⟩
                rw [HX.out]
                go_wp2_with fail
                refine (width_any _ _ (by omega) (by omega)).mono ?_
                rintro e w' ⟨rfl, rfl⟩
                rw [Int.toNat_natCast, HW.out]
                go_wp2
                exact bodyPost_ret (v := .agg #[.int .u64 0, .slice none 0 0, .int .i64 0, .int .i64 3]) (by simp [results, Tryd.results53, go_sem]) rfl (got_nil 0 0 3 rfl (((Kept.refl _ _).alloc _).alloc _))
              · rw [if_neg hm]
                have hgt : (x : Int) ≤ most := by omega
                go_enter Tryd.func53, Tryd.ntmps53
                go_wp2_with fail
                refine (rfNumber_at _ n c bs (a + 1) d _ _ _ ((hr2.alloc _).alloc _) (by omega) (by omega) (by omega) (by omega) hn).mono ?_
                rintro e w' ⟨rfl, rfl⟩
                rw [HX.out]
                go_wp2_with fail
                refine (width_any _ _ (by omega) (by omega)).mono ?_
                rintro e w' ⟨rfl, rfl⟩
                rw [Int.toNat_natCast, HW.out]
                go_wp2
                exact bodyPost_ret (v := .agg #[.int .u64 x, .slice none 0 0, .int .i64 (1 + (d : Int)), .int .i64 0]) (by simp [results, Tryd.results53, go_sem]) rfl (got_nil _ (1 + d) 0 (by simp) (((Kept.refl _ _).alloc _).alloc _))
            · have hf : fol x ≠ d := by unfold fol; rw [if_neg hlo]; exact hwd
              rw [if_pos hf]
              have hne : ((wid x : Int) != (d : Int)) = true := by simp; omega
              clear hf
              go_enter Tryd.func53, Tryd.ntmps53
              go_wp2_with fail
              refine (rfNumber_at _ n c bs (a + 1) d _ _ _ ((hr2.alloc _).alloc _) (by omega) (by omega) (by omega) (by omega) hn).mono ?_
              rintro e w' ⟨rfl, rfl⟩
              rw [HX.out]
              go_wp2_with fail
              refine (width_any _ _ (by omega) (by omega)).mono ?_
              rintro e w' ⟨rfl, rfl⟩
              rw [Int.toNat_natCast]
              go_wp2
              exact bodyPost_ret (v := .agg #[.int .u64 0, .slice none 0 0, .int .i64 0, .int .i64 2]) (by simp [results, Tryd.results53, go_sem]) rfl (got_nil 0 0 2 rfl (((Kept.refl _ _).alloc _).alloc _))
  · have hdrop : bs.drop a = [] := List.drop_of_length_le (by omega)
    rw [hdrop]
    have hg : (n : Int) - (a : Int) < 1 := by omega
    have ht : tsm [] most.toNat = (0, 0, 1) := rfl
    rw [ht]
    clear hl hdrop ht
    go_enter Tryd.func53, Tryd.ntmps53
    go_wp2
    exact bodyPost_ret (v := .agg #[.int .u64 0, .slice none 0 0, .int .i64 0, .int .i64 1]) (by simp [results, Tryd.results53, go_sem]) rfl (got_nil 0 0 1 rfl ((Kept.refl _ _).alloc _))
end Go.Proofs.YtibcjbelcplpjaaDoor
/-
  append onto a byte row of the call's own, as one step of a region whose order is left open. No statement of the seed is proved here.
-/
namespace Go.Proofs.YtibcjbelcplpjaaDoor
open Go.RowKit

theorem step_append_bytes {P : Program} {w : World} {ops : Array Oper} {o : Oper} {a : Act} {K : Act → World → Prop} {Q : Exit → Act → World → Prop} {E : Prop} (hgd : o.guard = none) (s x : Operand) (t : TypeId)
    (ho : o.op = .call { callee := .builtin .append, args := #[s, x], argTypes := #[t, t] })
    (e : TypeId) (i : TypeInfo) (z : Value) (bytes : Nat) (ht : P.underlying t = some (.slice e)) (hi : P.info? e = some i) (hz : i.zero = some z)
    (hsize : i.size = 1) (hby : i.bytes = bytes) (hzs : z.cells.size = 1)
    (v : Value) (xs : List UInt8) (hs : a.eval s = v) (hown : OwB e w v xs)
    (A : Option Addr) (m c : Nat) (news : List UInt8) (hx : a.eval x = .slice A m c) (hr : RdB w A m c news)
    (h63 : xs.length + m ≤ maxLen) (hbytes : (xs.length + m) * bytes ≤ 140737488355328)
    (h : ∀ v' w', OwB e w' v' (xs ++ news) → Kept v.ownBlock.toList w w' → Moved w v v' → K (a.put o.dst v') w') :
    if Region.wanted o (yielded ops a.tmps) = true then Oper.wp P o a w K Q else E := by
  have hw : Region.wanted o (yielded ops a.tmps) = true := by simp [Region.wanted, hgd]
  rw [if_pos hw]
  obtain ⟨v', w', hrun, h2, h3, h4⟩ := run_append_bytes (P := P) (w := w) t o.type e i z bytes ht hi hz hsize hby hzs hown hr h63 hbytes
  unfold Oper.wp execOp
  simp only [ho, resolve, invoke, builtin, Sem.run_bind, Sem.run_pure, Result.andThen_ok, List.map_toArray, List.map_cons, List.map_nil, hs, hx, hrun]
  exact h v' w' h2 h3 h4
end Go.Proofs.YtibcjbelcplpjaaDoor
/-
  Contract of the document's own answer of layer 1: a text that is taken. No statement of the seed is proved here.
-/
namespace Go.Proofs.YtibcjbelcplpjaaDoor
open Go.RowKit
set_option linter.unusedVariables false

theorem rfTakeSmall_at (A : Option Addr) (n c : Nat) (bs : List UInt8) (a : Nat) (most : Int) (w : World) (hr : RdB w A n c bs) (ha : a ≤ n) (hn : n ≤ 1000000) (h0 : 0 ≤ most) {x d er : Nat} (ht : tsm (bs.drop a) most.toNat = (x, d, er)) :
    Calls Tryd.prog 53 #[.slice A n c, .int .i64 a, .int .u64 most] w (GotRet x [] d er w) := by
  have := rfTakeSmall_any A n c bs a most w hr ha hn h0
  rw [ht] at this
  exact this

/-- The cells of a block of four. -/
theorem blk4 {w : World} {g : Nat} {v0 v1 v2 v3 : Value} {t : TypeId} (hb : w.heap[g]? = some (.cells #[v0, v1, v2, v3] t (0, 0))) :
    (w.cell? ⟨g, 0, none⟩ = some v0 ∧ w.cell? ⟨g, 1, none⟩ = some v1 ∧ w.cell? ⟨g, 2, none⟩ = some v2 ∧ w.cell? ⟨g, 3, none⟩ = some v3) ∧
    (w.frozen? ⟨g, 0, none⟩ = false ∧ w.frozen? ⟨g, 1, none⟩ = false ∧ w.frozen? ⟨g, 2, none⟩ = false ∧ w.frozen? ⟨g, 3, none⟩ = false) ∧ g < w.heap.size := by
  refine ⟨⟨?_, ?_, ?_, ?_⟩, ⟨?_, ?_, ?_, ?_⟩, (Array.getElem?_eq_some_iff.1 hb).1⟩
  · rw [cell_of_row _ _ _ _ _ _ hb]; rfl
  · rw [cell_of_row _ _ _ _ _ _ hb]; rfl
  · rw [cell_of_row _ _ _ _ _ _ hb]; rfl
  · rw [cell_of_row _ _ _ _ _ _ hb]; rfl
  all_goals exact frozen_of_row _ _ _ _ _ hb
/-- A block of four cells that the call made, behind a call that turned nothing old. -/
theorem four_cells {w w1 : World} {v0 v1 v2 v3 : Value} {t : TypeId} (hk : Kept [] (w.alloc (.cells #[v0, v1, v2, v3] t)) w1) :
    (w1.cell? ⟨w.heap.size, 0, none⟩ = some v0 ∧ w1.cell? ⟨w.heap.size, 1, none⟩ = some v1 ∧ w1.cell? ⟨w.heap.size, 2, none⟩ = some v2 ∧ w1.cell? ⟨w.heap.size, 3, none⟩ = some v3) ∧
    (w1.frozen? ⟨w.heap.size, 0, none⟩ = false ∧ w1.frozen? ⟨w.heap.size, 1, none⟩ = false ∧ w1.frozen? ⟨w.heap.size, 2, none⟩ = false ∧ w1.frozen? ⟨w.heap.size, 3, none⟩ = false) ∧ w.heap.size < w1.heap.size :=
  blk4 ((hk.block w.heap.size (by simp) (by simp)).trans (heap_alloc_new w _))
theorem second_block (w1 : World) (O1 O2 : Obj) : ((w1.alloc O1).alloc O2).drew.heap[w1.heap.size + 1]? = some O2 := by
  show ((w1.alloc O1).alloc O2).heap[w1.heap.size + 1]? = some O2
  have := heap_alloc_new (w1.alloc O1) O2
  simpa using this
theorem old_block (w1 : World) (O1 O2 : Obj) (g : Nat) (hg : g < w1.heap.size) : ((w1.alloc O1).alloc O2).drew.heap[g]? = w1.heap[g]? := by
  show ((w1.alloc O1).alloc O2).heap[g]? = w1.heap[g]?
  rw [Below.heap_alloc _ _ _ (by simp; omega), Below.heap_alloc _ _ _ hg]

theorem text_end {w w1 w2 : World} {x d : Nat} {A2 : Option Addr} {n2 c2 : Nat} {T : List UInt8} {t : TypeId} {u0 u1 u2 u3 u4 u5 u6 u7 s0 s1 s2 s3 s4 : Value} (hk1 : Kept [] w w1)
    (hk2 : Kept (Value.slice none 0 0).ownBlock.toList ((w1.alloc (.cells #[u0, u1, u2, u3] t)).alloc (.cells #[u4, u5, u6, u7] t)).drew w2)
    (hm2 : Moved ((w1.alloc (.cells #[u0, u1, u2, u3] t)).alloc (.cells #[u4, u5, u6, u7] t)).drew (.slice none 0 0) (.slice A2 n2 c2)) (hown2 : OwB 5 w2 (.slice A2 n2 c2) ([] ++ T)) (hlt : w.heap.size < w1.heap.size) :
    GotRet 0 T (d + x) 0 w (.returned (.agg #[.int .u64 0, .slice A2 n2 c2, .int .i64 ((d : Int) + (x : Int)), .int .i64 0]))
      (((((w2.setCell ⟨w1.heap.size + 1, 1, none⟩ s0).setCell ⟨w.heap.size, 0, none⟩ s1).setCell ⟨w.heap.size, 1, none⟩ s2).setCell ⟨w.heap.size, 2, none⟩ s3).setCell ⟨w.heap.size, 3, none⟩ s4) := by
  have hS : Kept [w1.heap.size + 1, w.heap.size] w2 (((((w2.setCell ⟨w1.heap.size + 1, 1, none⟩ s0).setCell ⟨w.heap.size, 0, none⟩ s1).setCell ⟨w.heap.size, 1, none⟩ s2).setCell ⟨w.heap.size, 2, none⟩ s3).setCell ⟨w.heap.size, 3, none⟩ s4) :=
    (((((Kept.refl _ _).setCell (by simp) _).setCell (by simp) _).setCell (by simp) _).setCell (by simp) _).setCell (by simp) _
  have hnew : ∀ g, (Value.slice A2 n2 c2).ownBlock = some g → w1.heap.size + 2 ≤ g := by
    intro g hg
    rcases hm2 g hg with h | h
    · simp [Value.ownBlock] at h
    · simpa using h
  have hk02 : Kept [] w w2 := by
    refine (((hk1.alloc _).alloc _).drew).trans hk2 ?_
    simp [Value.ownBlock]
  refine ⟨.slice A2 n2 c2, by simp, ?_, hk02.trans hS (by simp; omega), fun g hg => by have := hnew g hg; omega⟩
  have h2 : OwB 5 w2 (.slice A2 n2 c2) T := by simpa using hown2
  exact h2.kept hS (fun g hg => by have := hnew g hg; simp; omega)

set_option maxHeartbeats 4000000 in
set_option maxRecDepth 100000 in
theorem rfTakeText_any (A : Option Addr) (n c : Nat) (bs : List UInt8) (a : Nat) (most : Int) (w : World) (hr : RdB w A n c bs) (ha : a ≤ n) (hn : n ≤ 1000000) (h1 : -9223372036854775808 ≤ most) (h2 : most ≤ 9223372036854775807) :
    Calls Tryd.prog 30 #[.slice A n c, .int .i64 a, .int .i64 most] w (GotRet 0 (ttext (bs.drop a) most).1 (ttext (bs.drop a) most).2.1 (ttext (bs.drop a) most).2.2 w) := by
  obtain ⟨x, d, er, ht⟩ : ∃ x d er, tsm (bs.drop a) (max most 0).toNat = (x, d, er) := ⟨_, _, _, rfl⟩
  obtain ⟨hx, hs, hs5, he3, hz⟩ := tsm_facts ht
  have htt : ttext (bs.drop a) most = if er ≠ 0 then ([], 0, er) else if (bs.drop a).length - d < x then ([], 0, 1) else (((bs.drop a).drop d).take x, d + x, 0) := by
    unfold ttext; rw [ht]
  rw [htt]
  have hl := hr.len
  rw [List.length_drop] at hs htt ⊢
  have HT := Lib.hid ht
  clear ht htt
  by_cases hm : most < 0
  · have hmx : (max most 0) = 0 := by omega
    rw [hmx] at HT
    clear hmx
    by_cases her : er = 0
    · subst her
      rw [if_neg (by simp)]
      by_cases hsh : bs.length - a - d < x
      · rw [if_pos hsh]
        have hg : (n : Int) - ((a : Int) + (d : Int)) < (x : Int) := by omega
        have hg2 : a + d ≤ n := by omega
        clear hz hl
        go_enter Tryd.func30, Tryd.ntmps30
        go_wp2_with fail
        refine (rfTakeSmall_at A n c bs a 0 _ (hr.alloc _) ha hn (by omega) HT.out).mono ?_
        rintro e w1 ⟨v, rfl, ho, hk, hf⟩
        obtain ⟨A1, n1, c1, rfl, hrd, hbl⟩ := ho.form
        obtain ⟨⟨e0, e1, e2, e3⟩, ⟨f0, f1, f2, f3⟩, hlt⟩ := four_cells hk
        go_wp2
        refine bodyPost_ret (v := .agg #[.int .u64 0, .slice none 0 0, .int .i64 0, .int .i64 1]) (by simp [results, Tryd.results30, go_sem, hlt, e0, e1, e2, e3]) rfl (got_nil 0 0 1 rfl ?_)
        refine Kept.alloc ?_ _
        exact ((((((Kept.refl [] w).alloc _).andThen hk).setCell (by simp) _).setCell (by simp) _).setCell (by simp) _).setCell (by simp) _
      · rw [if_neg hsh]
        have hg : (x : Int) ≤ (n : Int) - ((a : Int) + (d : Int)) := by omega
        have hg2 : a + d + x ≤ n := by omega
        have hcc := hr.cap
        have hcm := hr.most
        unfold maxLen at hcm
        have hcut := (hr.drop (a + d) (by omega)).take x (by omega)
        rw [← List.drop_drop] at hcut
        clear hz hl hsh
        obtain ⟨i0, hi, hz0, hz1, hz2⟩ := info_parts u8info
        generalize hT : ((bs.drop a).drop d).take x = T at *
        clear hT
        by_cases hcs : c = a + d
        · rw [if_pos hcs, hcs, Nat.sub_self] at hcut
          obtain rfl : x = 0 := by omega
          obtain rfl : n = a + d := by omega
          subst hcs
          go_enter Tryd.func30, Tryd.ntmps30
          go_wp2_with fail
          refine (rfTakeSmall_at A (a + d) (a + d) bs a 0 _ (hr.alloc _) ha hn (by omega) HT.out).mono ?_
          rintro e w1 ⟨v, rfl, ho, hk, hf⟩
          obtain ⟨A1, n1, c1, rfl, hrd, hbl⟩ := ho.form
          obtain ⟨⟨e0, e1, e2, e3⟩, ⟨f0, f1, f2, f3⟩, hlt⟩ := four_cells hk
          have hk1 : Kept [] w w1 := ((Kept.refl [] w).alloc _).andThen hk
          have hc1 := hcut.kept0 hk1
          have hb1 := Lib.hid ((hk.block w.heap.size (by simp) (by simp)).trans (heap_alloc_new w _))
          go_wp2
          have q1 : IntKind.i64.wrap (0 : Int) = 0 := IntWalk.i64_in _ (by omega)
          have q2 : IntKind.i64.wrap ((a : Int) + (d : Int)) = (a : Int) + (d : Int) := IntWalk.i64_in _ (by omega)
          have q5 : (0 : Int) ≤ (a : Int) + (d : Int) := by omega
          have q6 : max ((a : Int) + (d : Int)) 0 = (a : Int) + (d : Int) := by omega
          have q8 : ((a : Int) + (d : Int)).toNat = a + d := by omega
          go_region_law (refine step_append_bytes rfl (.tmp 42) (.tmp 50) 26 rfl 5 i0 _ 1 Tryd.underlying26 hi hz0 hz1 hz2 rfl (.slice none 0 0) [] rfl (OwB.nil _ _) _ 0 _ _ rfl ((((hc1.alloc _).alloc _).drew)) (by simp only [maxLen, List.length_nil]; omega) (by simp only [List.length_nil]; omega) ?_; intro v2 w2 hown2 hk2 hm2; obtain ⟨A2, n2, c2, rfl, hrd2, hbl2⟩ := hown2.form; obtain ⟨⟨g0, g1, g2, g3⟩, ⟨k0, k1, k2, k3⟩, hlt2⟩ := blk4 ((hk2.block (w1.heap.size + 1) (by simp) (by simp [Value.ownBlock])).trans (second_block w1 _ _)); obtain ⟨⟨m0, m1, m2, m3⟩, ⟨l0, l1, l2, l3⟩, hlt3⟩ := blk4 ((hk2.block w.heap.size (by simp; omega) (by simp [Value.ownBlock])).trans ((old_block w1 _ _ _ hlt).trans hb1.out)))
          clear q1 q2 q5 q6 q8
          all_goals go_wp2
          all_goals refine bodyPost_ret (v := .agg #[.int .u64 0, .slice A2 n2 c2, .int .i64 (d : Int), .int .i64 0]) (by simp [results, Tryd.results30, go_sem, m0, m1, m2, m3]) rfl (text_end hk1 hk2 hm2 hown2 hlt)
        · rw [if_neg hcs] at hcut
          go_enter Tryd.func30, Tryd.ntmps30
          go_wp2_with fail
          refine (rfTakeSmall_at A n c bs a 0 _ (hr.alloc _) ha hn (by omega) HT.out).mono ?_
          rintro e w1 ⟨v, rfl, ho, hk, hf⟩
          obtain ⟨A1, n1, c1, rfl, hrd, hbl⟩ := ho.form
          obtain ⟨⟨e0, e1, e2, e3⟩, ⟨f0, f1, f2, f3⟩, hlt⟩ := four_cells hk
          have hk1 : Kept [] w w1 := ((Kept.refl [] w).alloc _).andThen hk
          have hc1 := hcut.kept0 hk1
          have hb1 := Lib.hid ((hk.block w.heap.size (by simp) (by simp)).trans (heap_alloc_new w _))
          go_wp2
          have q1 : IntKind.i64.wrap (x : Int) = (x : Int) := IntWalk.i64_in _ (by omega)
          have q2 : IntKind.i64.wrap ((a : Int) + (d : Int) + (x : Int)) = (a : Int) + (d : Int) + (x : Int) := IntWalk.i64_in _ (by omega)
          have q3 : (0 : Int) ≤ (a : Int) + (d : Int) + (x : Int) := by omega
          have q4 : (a : Int) + (d : Int) + (x : Int) ≤ (c : Int) := by omega
          have q5 : (0 : Int) ≤ (a : Int) + (d : Int) := by omega
          have q6 : max ((a : Int) + (d : Int) + (x : Int)) 0 = (a : Int) + (d : Int) + (x : Int) := by omega
          have q7 : (a : Int) + (d : Int) ≤ (a : Int) + (d : Int) + (x : Int) := by omega
          have q8 : ((a : Int) + (d : Int)).toNat = a + d := by omega
          have q9 : ((a : Int) + (d : Int) + (x : Int)).toNat = a + d + x := by omega
          have q10 : a + d + x - (a + d) = x := by omega
          go_region_law (refine step_append_bytes rfl (.tmp 42) (.tmp 50) 26 rfl 5 i0 _ 1 Tryd.underlying26 hi hz0 hz1 hz2 rfl (.slice none 0 0) [] rfl (OwB.nil _ _) _ x _ _ rfl ((((hc1.alloc _).alloc _).drew)) (by simp only [maxLen, List.length_nil]; omega) (by simp only [List.length_nil]; omega) ?_; intro v2 w2 hown2 hk2 hm2; obtain ⟨A2, n2, c2, rfl, hrd2, hbl2⟩ := hown2.form; obtain ⟨⟨g0, g1, g2, g3⟩, ⟨k0, k1, k2, k3⟩, hlt2⟩ := blk4 ((hk2.block (w1.heap.size + 1) (by simp) (by simp [Value.ownBlock])).trans (second_block w1 _ _)); obtain ⟨⟨m0, m1, m2, m3⟩, ⟨l0, l1, l2, l3⟩, hlt3⟩ := blk4 ((hk2.block w.heap.size (by simp; omega) (by simp [Value.ownBlock])).trans ((old_block w1 _ _ _ hlt).trans hb1.out)))
          clear q1 q2 q3 q4 q5 q6 q7 q8 q9 q10
          all_goals go_wp2
          all_goals refine bodyPost_ret (v := .agg #[.int .u64 0, .slice A2 n2 c2, .int .i64 ((d : Int) + (x : Int)), .int .i64 0]) (by simp [results, Tryd.results30, go_sem, m0, m1, m2, m3]) rfl (text_end hk1 hk2 hm2 hown2 hlt)
    · obtain ⟨rfl, rfl⟩ := hz her
      rw [if_pos her]
      have hne : ((er : Int) != 0) = true := by simp; omega
      clear hz hl
      go_enter Tryd.func30, Tryd.ntmps30
      go_wp2_with fail
      refine (rfTakeSmall_at A n c bs a 0 _ (hr.alloc _) ha hn (by omega) HT.out).mono ?_
      rintro e w1 ⟨v, rfl, ho, hk, hf⟩
      obtain ⟨A1, n1, c1, rfl, hrd, hbl⟩ := ho.form
      obtain ⟨⟨e0, e1, e2, e3⟩, ⟨f0, f1, f2, f3⟩, hlt⟩ := four_cells hk
      go_wp2
      have hkk : ∀ (u0 u1 u2 u3 : Value), Kept [w.heap.size] w1 ((((w1.setCell ⟨w.heap.size, 0, none⟩ u0).setCell ⟨w.heap.size, 1, none⟩ u1).setCell ⟨w.heap.size, 2, none⟩ u2).setCell ⟨w.heap.size, 3, none⟩ u3) := fun _ _ _ _ => ((((Kept.refl _ _).setCell (by simp) _).setCell (by simp) _).setCell (by simp) _).setCell (by simp) _
      refine bodyPost_ret (v := .agg #[.int .u64 0, .slice A1 n1 c1, .int .i64 0, .int .i64 er]) (by simp [results, Tryd.results30, go_sem, hlt, e0, e1, e2, e3]) rfl ⟨_, rfl, (ho.kept (hkk _ _ _ _) ?_).alloc _, Kept.alloc ((((Kept.refl [] w).alloc _).andThen hk).trans (hkk _ _ _ _) (by simp)) _, ?_⟩
      · intro g hg
        have := hf g hg
        simp at this ⊢
        omega
      · intro g hg
        have := hf g hg
        simp at this
        omega
  · have hmx : (max most 0) = most := by omega
    rw [hmx] at HT
    clear hmx
    by_cases her : er = 0
    · subst her
      rw [if_neg (by simp)]
      by_cases hsh : bs.length - a - d < x
      · rw [if_pos hsh]
        have hg : (n : Int) - ((a : Int) + (d : Int)) < (x : Int) := by omega
        have hg2 : a + d ≤ n := by omega
        clear hz hl
        go_enter Tryd.func30, Tryd.ntmps30
        go_wp2_with fail
        refine (rfTakeSmall_at A n c bs a most _ (hr.alloc _) ha hn (by omega) HT.out).mono ?_
        rintro e w1 ⟨v, rfl, ho, hk, hf⟩
        obtain ⟨A1, n1, c1, rfl, hrd, hbl⟩ := ho.form
        obtain ⟨⟨e0, e1, e2, e3⟩, ⟨f0, f1, f2, f3⟩, hlt⟩ := four_cells hk
        go_wp2
        refine bodyPost_ret (v := .agg #[.int .u64 0, .slice none 0 0, .int .i64 0, .int .i64 1]) (by simp [results, Tryd.results30, go_sem, hlt, e0, e1, e2, e3]) rfl (got_nil 0 0 1 rfl ?_)
        refine Kept.alloc ?_ _
        exact ((((((Kept.refl [] w).alloc _).andThen hk).setCell (by simp) _).setCell (by simp) _).setCell (by simp) _).setCell (by simp) _
      · rw [if_neg hsh]
        have hg : (x : Int) ≤ (n : Int) - ((a : Int) + (d : Int)) := by omega
        have hg2 : a + d + x ≤ n := by omega
        have hcc := hr.cap
        have hcm := hr.most
        unfold maxLen at hcm
        have hcut := (hr.drop (a + d) (by omega)).take x (by omega)
        rw [← List.drop_drop] at hcut
        clear hz hl hsh
        obtain ⟨i0, hi, hz0, hz1, hz2⟩ := info_parts u8info
        generalize hT : ((bs.drop a).drop d).take x = T at *
        clear hT
        by_cases hcs : c = a + d
        · rw [if_pos hcs, hcs, Nat.sub_self] at hcut
          obtain rfl : x = 0 := by omega
          obtain rfl : n = a + d := by omega
          subst hcs
          go_enter Tryd.func30, Tryd.ntmps30
          go_wp2_with fail
          refine (rfTakeSmall_at A (a + d) (a + d) bs a most _ (hr.alloc _) ha hn (by omega) HT.out).mono ?_
          rintro e w1 ⟨v, rfl, ho, hk, hf⟩
          obtain ⟨A1, n1, c1, rfl, hrd, hbl⟩ := ho.form
          obtain ⟨⟨e0, e1, e2, e3⟩, ⟨f0, f1, f2, f3⟩, hlt⟩ := four_cells hk
          have hk1 : Kept [] w w1 := ((Kept.refl [] w).alloc _).andThen hk
          have hc1 := hcut.kept0 hk1
          have hb1 := Lib.hid ((hk.block w.heap.size (by simp) (by simp)).trans (heap_alloc_new w _))
          go_wp2
          have q1 : IntKind.i64.wrap (0 : Int) = 0 := IntWalk.i64_in _ (by omega)
          have q2 : IntKind.i64.wrap ((a : Int) + (d : Int)) = (a : Int) + (d : Int) := IntWalk.i64_in _ (by omega)
          have q5 : (0 : Int) ≤ (a : Int) + (d : Int) := by omega
          have q6 : max ((a : Int) + (d : Int)) 0 = (a : Int) + (d : Int) := by omega
          have q8 : ((a : Int) + (d : Int)).toNat = a + d := by omega
          go_region_law (refine step_append_bytes rfl (.tmp 42) (.tmp 50) 26 rfl 5 i0 _ 1 Tryd.underlying26 hi hz0 hz1 hz2 rfl (.slice none 0 0) [] rfl (OwB.nil _ _) _ 0 _ _ rfl ((((hc1.alloc _).alloc _).drew)) (by simp only [maxLen, List.length_nil]; omega) (by simp only [List.length_nil]; omega) ?_; intro v2 w2 hown2 hk2 hm2; obtain ⟨A2, n2, c2, rfl, hrd2, hbl2⟩ := hown2.form; obtain ⟨⟨g0, g1, g2, g3⟩, ⟨k0, k1, k2, k3⟩, hlt2⟩ := blk4 ((hk2.block (w1.heap.size + 1) (by simp) (by simp [Value.ownBlock])).trans (second_block w1 _ _)); obtain ⟨⟨m0, m1, m2, m3⟩, ⟨l0, l1, l2, l3⟩, hlt3⟩ := blk4 ((hk2.block w.heap.size (by simp; omega) (by simp [Value.ownBlock])).trans ((old_block w1 _ _ _ hlt).trans hb1.out)))
          clear q1 q2 q5 q6 q8
          all_goals go_wp2
          all_goals refine bodyPost_ret (v := .agg #[.int .u64 0, .slice A2 n2 c2, .int .i64 (d : Int), .int .i64 0]) (by simp [results, Tryd.results30, go_sem, m0, m1, m2, m3]) rfl (text_end hk1 hk2 hm2 hown2 hlt)
        · rw [if_neg hcs] at hcut
          go_enter Tryd.func30, Tryd.ntmps30
          go_wp2_with fail
          refine (rfTakeSmall_at A n c bs a most _ (hr.alloc _) ha hn (by omega) HT.out).mono ?_
          rintro e w1 ⟨v, rfl, ho, hk, hf⟩
          obtain ⟨A1, n1, c1, rfl, hrd, hbl⟩ := ho.form
          obtain ⟨⟨e0, e1, e2, e3⟩, ⟨f0, f1, f2, f3⟩, hlt⟩ := four_cells hk
          have hk1 : Kept [] w w1 := ((Kept.refl [] w).alloc _).andThen hk
          have hc1 := hcut.kept0 hk1
          have hb1 := Lib.hid ((hk.block w.heap.size (by simp) (by simp)).trans (heap_alloc_new w _))
          go_wp2
          have q1 : IntKind.i64.wrap (x : Int) = (x : Int) := IntWalk.i64_in _ (by omega)
          have q2 : IntKind.i64.wrap ((a : Int) + (d : Int) + (x : Int)) = (a : Int) + (d : Int) + (x : Int) := IntWalk.i64_in _ (by omega)
          have q3 : (0 : Int) ≤ (a : Int) + (d : Int) + (x : Int) := by omega
          have q4 : (a : Int) + (d : Int) + (x : Int) ≤ (c : Int) := by omega
          have q5 : (0 : Int) ≤ (a : Int) + (d : Int) := by omega
          have q6 : max ((a : Int) + (d : Int) + (x : Int)) 0 = (a : Int) + (d : Int) + (x : Int) := by omega
          have q7 : (a : Int) + (d : Int) ≤ (a : Int) + (d : Int) + (x : Int) := by omega
          have q8 : ((a : Int) + (d : Int)).toNat = a + d := by omega
          have q9 : ((a : Int) + (d : Int) + (x : Int)).toNat = a + d + x := by omega
          have q10 : a + d + x - (a + d) = x := by omega
          go_region_law (refine step_append_bytes rfl (.tmp 42) (.tmp 50) 26 rfl 5 i0 _ 1 Tryd.underlying26 hi hz0 hz1 hz2 rfl (.slice none 0 0) [] rfl (OwB.nil _ _) _ x _ _ rfl ((((hc1.alloc _).alloc _).drew)) (by simp only [maxLen, List.length_nil]; omega) (by simp only [List.length_nil]; omega) ?_; intro v2 w2 hown2 hk2 hm2; obtain ⟨A2, n2, c2, rfl, hrd2, hbl2⟩ := hown2.form; obtain ⟨⟨g0, g1, g2, g3⟩, ⟨k0, k1, k2, k3⟩, hlt2⟩ := blk4 ((hk2.block (w1.heap.size + 1) (by simp) (by simp [Value.ownBlock])).trans (second_block w1 _ _)); obtain ⟨⟨m0, m1, m2, m3⟩, ⟨l0, l1, l2, l3⟩, hlt3⟩ := blk4 ((hk2.block w.heap.size (by simp; omega) (by simp [Value.ownBlock])).trans ((old_block w1 _ _ _ hlt).trans hb1.out)))
          clear q1 q2 q3 q4 q5 q6 q7 q8 q9 q10
          all_goals go_wp2
          all_goals refine bodyPost_ret (v := .agg #[.int .u64 0, .slice A2 n2 c2, .int .i64 ((d : Int) + (x : Int)), .int .i64 0]) (by simp [results, Tryd.results30, go_sem, m0, m1, m2, m3]) rfl (text_end hk1 hk2 hm2 hown2 hlt)
    · obtain ⟨rfl, rfl⟩ := hz her
      rw [if_pos her]
      have hne : ((er : Int) != 0) = true := by simp; omega
      clear hz hl
      go_enter Tryd.func30, Tryd.ntmps30
      go_wp2_with fail
      refine (rfTakeSmall_at A n c bs a most _ (hr.alloc _) ha hn (by omega) HT.out).mono ?_
      rintro e w1 ⟨v, rfl, ho, hk, hf⟩
      obtain ⟨A1, n1, c1, rfl, hrd, hbl⟩ := ho.form
      obtain ⟨⟨e0, e1, e2, e3⟩, ⟨f0, f1, f2, f3⟩, hlt⟩ := four_cells hk
      go_wp2
      have hkk : ∀ (u0 u1 u2 u3 : Value), Kept [w.heap.size] w1 ((((w1.setCell ⟨w.heap.size, 0, none⟩ u0).setCell ⟨w.heap.size, 1, none⟩ u1).setCell ⟨w.heap.size, 2, none⟩ u2).setCell ⟨w.heap.size, 3, none⟩ u3) := fun _ _ _ _ => ((((Kept.refl _ _).setCell (by simp) _).setCell (by simp) _).setCell (by simp) _).setCell (by simp) _
      refine bodyPost_ret (v := .agg #[.int .u64 0, .slice A1 n1 c1, .int .i64 0, .int .i64 er]) (by simp [results, Tryd.results30, go_sem, hlt, e0, e1, e2, e3]) rfl ⟨_, rfl, (ho.kept (hkk _ _ _ _) ?_).alloc _, Kept.alloc ((((Kept.refl [] w).alloc _).andThen hk).trans (hkk _ _ _ _) (by simp)) _, ?_⟩
      · intro g hg
        have := hf g hg
        simp at this ⊢
        omega
      · intro g hg
        have := hf g hg
        simp at this
        omega
end Go.Proofs.YtibcjbelcplpjaaDoor
/-
  A result that lies in a variable, beside a plain one. No statement of the seed is proved here.
-/
namespace Go.Proofs.YtibcjbelcplpjaaDoor
open Go.RowKit
set_option linter.unusedVariables false

theorem results_blk2 {P : Program} {w : World} {fn : Func} {p u : Tmp} {ty : TypeId} (h : fn.results = #[.cell p ty, .tmp u]) (tmps : Array Value) (g : Nat) (t : TypeId) (cs : List Value) (d : TypeDesc) (v : Value)
    (hp : tmps.getD p undef = .pointer (some ⟨g, 0, none⟩)) (hv : tmps.getD u undef = v) (hg : Blk w g t cs)
    (hu : P.underlying ty = some d) (hd : d.isRow = true) (hi : (P.info? ty).map (·.size) = some cs.length) :
    (results fn tmps).run P w = .ok (.tuple #[.agg cs.toArray, v]) w := by
  have hp' : tmps[p]?.getD undef = .pointer (some ⟨g, 0, none⟩) := by simpa using hp
  have hv' : tmps[u]?.getD undef = v := by simpa using hv
  simp [results, h, hp', hv', asAddr, run_loadVar_row w g t ty cs.toArray (0, 0) d hg hu (by cases d <;> simp_all [TypeDesc.isRow]) (by simpa using hi)]

end Go.Proofs.YtibcjbelcplpjaaDoor
/-
  Contract of layer 13, the document's own: the frame that bytes tell. Written by a script. No statement of the seed is proved here.
-/
namespace Go.Proofs.YtibcjbelcplpjaaDoor
open Go.RowKit
set_option linter.unusedVariables false

/-- A frame told anew, and an error. -/
def FrRet (f : Fr) (er : Nat) (w : World) (e : Ending) (w' : World) : Prop :=
  ∃ A n c, e = .returned (.tuple #[.agg (frc f A n c).toArray, .int .i64 er]) ∧ FrAt w' f A n c ∧ Kept [] w w' ∧ ∀ q, (Value.slice A n c).ownBlock = some q → w.heap.size ≤ q
theorem frGet_short {key b : List UInt8} (h : b.length < 32) : frGet key b = (fr0, 1) := by unfold frGet; rw [if_pos h]
theorem frGet_tag {key b : List UInt8} (h : ¬ b.length < 32) (h2 : (b.take (b.length - 32) ++ hTag key (b.take (b.length - 32)) == b) = false) : frGet key b = (fr0, 4) := by
  unfold frGet
  rw [if_neg h, if_pos (by intro e; rw [e] at h2; simp at h2)]
theorem frGet_pick {key b : List UInt8} (h : ¬ b.length < 32) (h2 : (b.take (b.length - 32) ++ hTag key (b.take (b.length - 32)) == b) = true) : frGet key b = frPick (b.take (b.length - 32)) := by
  unfold frGet
  rw [if_neg h, if_neg (by simpa using h2)]
theorem frc_nums (x y z : Int) : frc ⟨List.replicate 16 0, x, y, z, 0, []⟩ none 0 0 = zb 16 ++ [.int .i64 x, .int .i64 y, .int .i64 z, .int .i64 0, .slice none 0 0] := by unfold frc zb; rfl
theorem builtFr3 (x y z : Int) : Tryd.prog.built 28 [(1, .int .i64 x), (2, .int .i64 y), (3, .int .i64 z)] = some (frc ⟨List.replicate 16 0, x, y, z, 0, []⟩ none 0 0).toArray := by rw [frc_nums]; kernel_rfl
theorem frPick_short {p : List UInt8} (h : p.length < 22) : frPick p = (fr0, 1) := by unfold frPick; rw [if_pos h]
theorem frPick_text {p t : List UInt8} {d er : Nat} (h : ¬ p.length < 22) (ht : ttext (p.drop 22) 65536 = (t, d, er)) (he : er ≠ 0) : frPick p = (fr0, er) := by unfold frPick; rw [if_neg h, ht]; simp only; rw [if_pos he]
theorem frPick_form {p t : List UInt8} {d : Nat} (h : ¬ p.length < 22) (ht : ttext (p.drop 22) 65536 = (t, d, 0)) (hf : (p[0]?).getD 0 ≠ 241 ∨ 22 + d < p.length) : frPick p = (fr0, 2) := by unfold frPick; rw [if_neg h, ht]; simp only; rw [if_neg (by simp), if_pos hf]
theorem frPick_told {p t : List UInt8} {d : Nat} (h : ¬ p.length < 22) (ht : ttext (p.drop 22) 65536 = (t, d, 0)) (hf : ¬ ((p[0]?).getD 0 ≠ 241 ∨ 22 + d < p.length)) : frPick p = if frRight (frTold p t) = true then (frTold p t, 0) else (fr0, 14) := by unfold frPick; rw [if_neg h, ht]; simp only; rw [if_neg (by simp), if_neg hf]
theorem told_eq {p t : List UInt8} {a b c d e : UInt8} (h17 : p[17]? = some a) (h18 : p[18]? = some b) (h19 : p[19]? = some c) (h20 : p[20]? = some d) (h21 : p[21]? = some e) : frTold p t = ⟨(p.drop 1).take 16, (a.toNat : Nat), (b.toNat : Nat), (c.toNat : Nat), 256 * (d.toNat : Int) + (e.toNat : Int), t⟩ := by
  have h2 : (p.drop 20).take 2 = [d, e] := by
    apply List.ext_getElem?
    intro i
    rw [List.getElem?_take, List.getElem?_drop]
    match i with
    | 0 => simpa using h20
    | 1 => simpa using h21
    | i + 2 => simp; omega
  have hn : num [d, e] = 256 * d.toNat + e.toNat := by simp [num]; omega
  unfold frTold
  rw [h2, hn, h17, h18, h19]
  simp
theorem off_ownB {A : Option Addr} {n c : Nat} {S : List Nat} (h : ∀ g, (Value.slice A n c).ownBlock = some g → g ∉ S) : Off A S := fun a ha => by
  subst ha
  exact h a.block rfl
theorem ttext_le {bs t : List UInt8} {most : Int} {d er : Nat} (h : ttext bs most = (t, d, er)) : d ≤ bs.length := by
  by_cases he : er = 0
  · subst he
    exact (sm_of_ttext h).2
  · obtain ⟨x, s, e2, hs⟩ : ∃ x s e2, tsm bs (max most 0).toNat = (x, s, e2) := ⟨_, _, _, rfl⟩
    unfold ttext at h
    rw [hs] at h
    simp only at h
    split at h
    · simp only [Prod.mk.injEq] at h; omega
    · split at h
      · simp only [Prod.mk.injEq] at h; omega
      · simp only [Prod.mk.injEq] at h; omega
theorem zeroGot : (Tryd.prog.info? 61).bind (·.zero) = some (.agg [Value.int .u64 0, .slice none 0 0, .int .i64 0, .int .i64 0].toArray) := by kernel_rfl
theorem sizeGot : (Tryd.prog.info? 61).map (·.size) = some 4 := by kernel_rfl
theorem sizeU8F : (Tryd.prog.info? 5).map (·.size) = some 1 := by kernel_rfl
theorem frc_set_cls {f : Fr} {A : Option Addr} {n c : Nat} (h : f.obj.length = 16) (z : Int) : (frc f A n c).set 19 (.int .i64 z) = frc { f with cls := z } A n c := by
  unfold frc
  rw [List.set_append_right _ _ (by rw [bvs_length]; omega), bvs_length, h]
  rfl
theorem frc_set_piece {f : Fr} {A : Option Addr} {n c : Nat} (h : f.obj.length = 16) (B : Option Addr) (m d : Nat) (t : List UInt8) : (frc f A n c).set 20 (.slice B m d) = frc { f with piece := t } B m d := by
  unfold frc
  rw [List.set_append_right _ _ (by rw [bvs_length]; omega), bvs_length, h]
  rfl
theorem frc_set_obj {f : Fr} {A : Option Addr} {n c : Nat} (h : f.obj.length = 16) (k : Nat) (hk : k < 16) (b : UInt8) : (frc f A n c).set k (.int .u8 (b.toNat : Int)) = frc { f with obj := f.obj.set k b } A n c := by
  unfold frc
  rw [List.set_append_left _ _ (by rw [bvs_length]; omega)]
  simp only [bvs, List.map_set]
  rfl

set_option maxRecDepth 100000 in
set_option maxHeartbeats 4000000 in
theorem rGt_short (key : List UInt8) (A : Option Addr) (n c : Nat) (b : List UInt8) (w : World) (hr : RdB w A n c b) (hn : n < 32) :
    Calls Tryd.prog 16 #[.agg (bvs key).toArray, .slice A n c] w (FrRet (frGet key b).1 (frGet key b).2 w) := by
  have HG := Lib.hid (frGet_short (key := key) (b := b) (by rw [hr.len]; exact hn))
  obtain ⟨y, hy⟩ : ∃ y, frGet key b = y := ⟨_, rfl⟩
  rw [hy] at HG ⊢
  obtain ⟨w1, hw1⟩ : ∃ w1, w1 = w.alloc (.cells (bvs key).toArray 23) := ⟨_, rfl⟩
  obtain ⟨a, ha⟩ : ∃ a, a = w.heap.size := ⟨_, rfl⟩
  have hA : Blk w1 a 23 (bvs key) := by rw [hw1, ha]; exact Blk.new w 23 (bvs key)
  have hk1 : Kept [] w w1 := by rw [hw1]; exact (Kept.refl [] w).alloc _
  have W1 := Lib.hid hw1
  have A0 := Lib.hid ha
  have HA1 := Lib.hid hA
  have HK1 := Lib.hid hk1
  have HB0 := Lib.hid builtFrE
  have Hsz0 := Lib.hid (frc_size (A := none) (n := 0) (c := 0) (f := fr0) (by unfold fr0; simp))
  have Hon0 := Lib.hid (frc_one fr0 none 0 0)
  have Hlt : Hid (w.heap.size ≤ w1.heap.size) := Lib.hid hk1.size
  obtain ⟨L0, hL0⟩ : ∃ L, frc fr0 none 0 0 = L := ⟨_, rfl⟩
  rw [hL0] at HB0 Hsz0 Hon0
  have HL0 := Lib.hid hL0
  have hz0 := zeroFr
  rw [hL0] at hz0
  have b1 : (n : Int) - 32 < 0 := by omega
  have b2 := hr.cap
  have b3 := hr.most
  unfold maxLen at b3
  clear hA hk1 hw1 ha hL0 hr hy
  go_enter Tryd.func16, Tryd.ntmps16
  go_wp2_with (first
    | (with_reducible change wpList _ _ _ (⟨_, Op.box _ _, _, _, _, _⟩ :: _) _ _; refine Great.wpList_boxTo rfl 23 _ rfl _ rfl a A0.out.symm (bvs key).toArray rfl ?_; rw [← W1.out])
    | (with_reducible change wpList _ _ _ (⟨_, Op.alloc _, _, _, _, _⟩ :: _) _ _; refine wpList_alloc_blk rfl 28 rfl _ hz0 ?_))
  intro w2 hR2 hk2 hs2
  obtain ⟨r, hr⟩ : ∃ r, r = w1.heap.size := ⟨_, rfl⟩
  rw [← hr] at hR2 ⊢
  have Hr : Hid (w.heap.size ≤ r) := Lib.hid (by have := Hlt.out; omega)
  have HR := Lib.hid hR2
  have HK := Lib.hid (HK1.out.andThen hk2)
  clear hr hR2 hk2 hs2 hz0
  go_wp2_with (with_reducible change wpList _ _ _ (⟨_, Op.store _ _ _, _, _, _, _⟩ :: _) _ _; refine wpList_store_blk rfl 28 (.tmp 4) (.tmp 15) rfl r L0 rfl ?a2 28 L0 HR.out Hsz0.out rfl Hon0.out ?_)
  case a2 => rw [← HL0.out, frc_zero]; rfl
  intro wz hRz hkz hsz
  go_wp2
  refine bodyPost_ret (results_blk2 rfl _ r 28 _ _ _ rfl rfl hRz Tryd.underlying28 rfl Hsz0.out) rfl ?_
  have hKz : Kept [] w wz := HK.out.trans hkz (fun i hi => .inr (by have := List.mem_singleton.1 hi; have := Hr.out; omega))
  rw [HG.out]
  exact ⟨none, 0, 0, by rw [HL0.out]; rfl, fr0_at _, hKz, by simp [Value.ownBlock]⟩

set_option maxRecDepth 100000 in
set_option maxHeartbeats 8000000 in
theorem rGt_long (key : List UInt8) (A : Option Addr) (n c : Nat) (b : List UInt8) (w : World) (hkl : key.length = 32) (hr : RdB w A n c b) (hn : 32 ≤ n) (hn2 : n ≤ 10000) :
    Calls Tryd.prog 16 #[.agg (bvs key).toArray, .slice A n c] w (FrRet (frGet key b).1 (frGet key b).2 w) := by
  obtain ⟨bb, off, rfl, hbb, hcell⟩ := hr.at_ (by omega)
  have hl := hr.len
  obtain ⟨m, hm⟩ : ∃ m, b.length - 32 = m := ⟨_, rfl⟩
  have HGt := Lib.hid (fun h2 => frGet_tag (key := key) (b := b) (by omega) h2)
  have HGp := Lib.hid (fun h2 => frGet_pick (key := key) (b := b) (by omega) h2)
  rw [hm] at HGt HGp
  obtain ⟨p, hp⟩ : ∃ p, b.take m = p := ⟨_, rfl⟩
  obtain ⟨Am, hrm, qm⟩ := hr.cutTo (P := Tryd.prog) 26 5 Tryd.underlying26 sizeU8F m (m : Int) rfl (by omega)
  have hpl : p.length = m := by rw [← hp, List.length_take]; omega
  rw [hp] at HGt HGp hrm
  obtain ⟨D, hD⟩ : ∃ D, hTag key p = D := ⟨_, rfl⟩
  rw [hD] at HGt HGp
  obtain ⟨y, hy⟩ : ∃ y, frGet key b = y := ⟨_, rfl⟩
  rw [hy] at HGt HGp ⊢
  obtain ⟨w1, hw1⟩ : ∃ w1, w1 = w.alloc (.cells (bvs key).toArray 23) := ⟨_, rfl⟩
  obtain ⟨a, ha⟩ : ∃ a, a = w.heap.size := ⟨_, rfl⟩
  have hA : Blk w1 a 23 (bvs key) := by rw [hw1, ha]; exact Blk.new w 23 (bvs key)
  have hk1 : Kept [] w w1 := by rw [hw1]; exact (Kept.refl [] w).alloc _
  have W1 := Lib.hid hw1
  have A0 := Lib.hid ha
  have HA1 := Lib.hid hA
  have HK1 := Lib.hid hk1
  have HB0 := Lib.hid builtFrE
  have Hsz0 := Lib.hid (frc_size (A := none) (n := 0) (c := 0) (f := fr0) (by unfold fr0; simp))
  have Hon0 := Lib.hid (frc_one fr0 none 0 0)
  have Hlt : Hid (w.heap.size ≤ w1.heap.size) := Lib.hid hk1.size
  obtain ⟨L0, hL0⟩ : ∃ L, frc fr0 none 0 0 = L := ⟨_, rfl⟩
  rw [hL0] at HB0 Hsz0 Hon0
  have HL0 := Lib.hid hL0
  have hz0 := zeroFr
  rw [hL0] at hz0
  have bm : (n : Int) - 32 = (m : Int) := by omega
  have bm0 : ¬ (m : Int) < 0 := by omega
  have b2 := hr.cap
  have b3 := hr.most
  unfold maxLen at b3
  have Hb : Hid (∀ j, j < n → ∃ x : UInt8, b[j]? = some x ∧ ∀ w', Kept [] w w' → w'.cell? ⟨bb, off + j, none⟩ = some (.int .u8 (x.toNat : Int))) := Lib.hid (fun j hj => by
    have hx : b[j]? = some (b[j]'(by omega)) := List.getElem?_eq_getElem _
    exact ⟨_, hx, fun w' hk => (hk.cell (p := ⟨bb, off + j, none⟩) hbb (by simp)).trans (hcell j (by omega))⟩)
  have Hbb := Lib.hid hbb
  have HR0 := Lib.hid hr
  have HRm := Lib.hid hrm
  have Hsk := Lib.hid (size_of_len (P := Tryd.prog) (ty := 23) size32 hkl)
  have Hkl := Lib.hid hkl
  have Hpl := Lib.hid hpl
  have Hpb := Lib.hid hp
  have HD := Lib.hid hD
  have Hm : Hid (m + 32 = n ∧ m ≤ c) := Lib.hid (by omega)
  have Qm := Lib.hid qm
  clear hA hk1 hw1 ha hL0 hr hrm hy hm hpl hp hl hD hkl qm hcell hbb
  go_enter Tryd.func16, Tryd.ntmps16
  go_wp2_with (first
    | (with_reducible change wpList _ _ _ (⟨_, Op.box _ _, _, _, _, _⟩ :: _) _ _; refine Great.wpList_boxTo rfl 23 _ rfl _ rfl a A0.out.symm (bvs key).toArray rfl ?_; rw [← W1.out])
    | (with_reducible change wpList _ _ _ (⟨_, Op.alloc _, _, _, _, _⟩ :: _) _ _; refine wpList_alloc_blk rfl 28 rfl _ hz0 ?_))
  intro w2 hR2 hk2 hs2
  obtain ⟨r, hr⟩ : ∃ r, r = w1.heap.size := ⟨_, rfl⟩
  rw [← hr] at hR2 ⊢
  have Hr : Hid (w.heap.size ≤ r) := Lib.hid (by have := Hlt.out; omega)
  have HA2 := Lib.hid (HA1.out.kept0 hk2)
  have HR2 := Lib.hid hR2
  have HK2 := Lib.hid (HK1.out.andThen hk2)
  have SK : Hid (∀ W, Kept [] w2 W → W.rangeAt a 0 (bvs key)) := Lib.hid (fun W hk => (HA2.out.kept0 hk).rangeOf)
  clear hr hR2 hk2 hs2 hz0
  go_wp2
  have hHeld := SK.out _ (Kept.refl [] w2).drew
  refine wp_region_begin (fun W => W.rangeAt a 0 (bvs key)) (by kernel_rfl) ?_
  refine held_loadD 0 16 rfl rfl (by kernel_rfl) (by kernel_rfl) (by kernel_rfl) rfl 23 (.tmp 2) rfl a 0 rfl (bvs key) _ (fun w h => h) arr32b rfl Hsk.out hHeld ?_
  simp only [Act.put, List.setIfInBounds_toArray, List.set_cons_succ, List.set_cons_zero]
  refine held_pureD 1 17 (Value.slice (some ⟨bb, off, none⟩) n c) rfl rfl (by kernel_rfl) (by kernel_rfl) (by kernel_rfl) rfl (fun w hS => rfl) hHeld ?_
  simp only [Act.put, List.setIfInBounds_toArray, List.set_cons_succ, List.set_cons_zero]
  refine held_pureD 2 18 (.int .i64 (m : Int)) rfl rfl (by kernel_rfl) (by kernel_rfl) (by kernel_rfl) rfl (fun w hS => rfl) hHeld ?_
  simp only [Act.put, List.setIfInBounds_toArray, List.set_cons_succ, List.set_cons_zero]
  refine held_pureD 3 19 (Value.slice Am m c) rfl rfl (by kernel_rfl) (by kernel_rfl) (by kernel_rfl) rfl (fun w hS => pure_cut 26 (.tmp 17) none (some (.tmp 18)) rfl (some ⟨bb, off, none⟩) n c (Value.slice Am m c) rfl 5 Tryd.underlying26 w (Qm.out w)) hHeld ?_
  simp only [Act.put, List.setIfInBounds_toArray, List.set_cons_succ, List.set_cons_zero]
  refine held_pureD 5 21 (Value.slice (some ⟨bb, off, none⟩) n c) rfl rfl (by kernel_rfl) (by kernel_rfl) (by kernel_rfl) rfl (fun w hS => rfl) hHeld ?_
  simp only [Act.put, List.setIfInBounds_toArray, List.set_cons_succ, List.set_cons_zero]
  refine held_one 4 (by kernel_rfl) rfl ?_
  go_wp2_with fail
  refine (rTd_any key Am m c p _ Hkl.out (HRm.out.kept0 (HK2.out.andThen (Kept.refl [] w2).drew)) (by omega)).mono ?_
  rintro e w3 ⟨v3, rfl, ho3, hk3, _⟩
  have hK3 := (Kept.refl [] w2).drew.andThen hk3
  obtain ⟨A3, n3, c3, rfl, hr3, _⟩ := ho3.form
  rw [HD.out] at hr3
  have HR3 := Lib.hid hr3
  clear ho3 hr3
  clear hk3
  go_wp2
  change _ ∧ wpAnyH _ _ _ _ _ _ _ _ _
  refine ⟨SK.out _ hK3, ?_⟩
  refine held_one 6 (by kernel_rfl) rfl ?_
  go_wp2_with fail
  refine (same_k A3 (some ⟨bb, off, none⟩) n3 n c3 c (p ++ D) b _ HR3.out (HR0.out.kept0 (HK2.out.andThen hK3))).mono ?_
  rintro e w4 ⟨rfl, hk4⟩
  have hK4 := hK3.andThen hk4
  clear hk4
  go_wp2
  change _ ∧ wpAnyH _ _ _ _ _ _ _ _ _
  refine ⟨SK.out _ hK4, ?_⟩
  obtain ⟨tb, htb⟩ : ∃ tb, (p ++ D == b) = tb := ⟨_, rfl⟩
  rw [htb] at HGt HGp ⊢
  have HKK := Lib.hid (HK2.out.andThen hK4)
  refine held_one 7 (by kernel_rfl) rfl ?_
  go_wp2
  change _ ∧ wpAnyH _ _ _ _ _ _ _ _ _
  refine ⟨SK.out _ hK4, ?_⟩
  refine held_done (by kernel_rfl) ?_
  have HR := Lib.hid (HR2.out.kept0 hK4)
  have HK := Lib.hid (HK2.out.andThen hK4)
  clear hHeld hK3 hK4 HR3 SK htb HR2 HA2 HK2
  cases tb with
  | false =>
    go_wp2_with (with_reducible change wpList _ _ _ (⟨_, Op.store _ _ _, _, _, _, _⟩ :: _) _ _; refine wpList_store_blk rfl 28 (.tmp 4) (.tmp 24) rfl r L0 rfl ?a2 28 L0 HR.out Hsz0.out rfl Hon0.out ?_)
    case a2 => rw [← HL0.out, frc_zero]; rfl
    intro wz hRz hkz hsz
    go_wp2
    refine bodyPost_ret (results_blk2 rfl _ r 28 _ _ _ rfl rfl hRz Tryd.underlying28 rfl Hsz0.out) rfl ?_
    have hKz : Kept [] w wz := HK.out.trans hkz (fun i hi => .inr (by have := List.mem_singleton.1 hi; have := Hr.out; omega))
    rw [HGt.out (by trivial)]
    exact ⟨none, 0, 0, by rw [HL0.out]; rfl, fr0_at _, hKz, by simp [Value.ownBlock]⟩
  | true =>
    have HG := Lib.hid (HGp.out (by trivial))
    clear HGt HGp
    by_cases h22 : m < 22
    · have b22 : (m : Int) < 22 := by omega
      have HG2 := Lib.hid (frPick_short (p := p) (by rw [Hpl.out]; exact h22))
      go_wp2_with (with_reducible change wpList _ _ _ (⟨_, Op.store _ _ _, _, _, _, _⟩ :: _) _ _; refine wpList_store_blk rfl 28 (.tmp 4) (.tmp 27) rfl r L0 rfl ?a2 28 L0 HR.out Hsz0.out rfl Hon0.out ?_)
      case a2 => rw [← HL0.out, frc_zero]; rfl
      intro wz hRz hkz hsz
      go_wp2
      refine bodyPost_ret (results_blk2 rfl _ r 28 _ _ _ rfl rfl hRz Tryd.underlying28 rfl Hsz0.out) rfl ?_
      have hKz : Kept [] w wz := HK.out.trans hkz (fun i hi => .inr (by have := List.mem_singleton.1 hi; have := Hr.out; omega))
      rw [HG.out, HG2.out]
      exact ⟨none, 0, 0, by rw [HL0.out]; rfl, fr0_at _, hKz, by simp [Value.ownBlock]⟩
    · have b22 : ¬ (m : Int) < 22 := by omega
      have hmn := Hm.out.1
      obtain ⟨x17, e17, g17⟩ := Hb.out 17 (by omega)
      obtain ⟨x18, e18, g18⟩ := Hb.out 18 (by omega)
      obtain ⟨x19, e19, g19⟩ := Hb.out 19 (by omega)
      obtain ⟨x20, e20, g20⟩ := Hb.out 20 (by omega)
      obtain ⟨x21, e21, g21⟩ := Hb.out 21 (by omega)
      have hpx : ∀ j, j < m → p[j]? = b[j]? := fun j hj => by rw [← Hpb.out, List.getElem?_take, if_pos hj]
      have HTo : Hid (∀ t, frTold p t = ⟨(b.drop 1).take 16, (x17.toNat : Nat), (x18.toNat : Nat), (x19.toNat : Nat), 256 * (x20.toNat : Int) + (x21.toNat : Int), t⟩) := Lib.hid (fun t => by
        rw [told_eq ((hpx 17 (by omega)).trans e17) ((hpx 18 (by omega)).trans e18) ((hpx 19 (by omega)).trans e19) ((hpx 20 (by omega)).trans e20) ((hpx 21 (by omega)).trans e21)]
        congr 1
        rw [← Hpb.out]
        apply List.ext_getElem?
        intro i
        rw [List.getElem?_take, List.getElem?_take, List.getElem?_drop, List.getElem?_drop, List.getElem?_take]
        by_cases hi : i < 16
        · rw [if_pos hi, if_pos hi, if_pos (by omega)]
        · rw [if_neg hi, if_neg hi])
      obtain ⟨x0, e0, g0⟩ := Hb.out 0 (by omega)
      have Hx0 : Hid ((p[0]?).getD 0 = x0) := Lib.hid (by rw [hpx 0 (by omega), e0]; rfl)
      have SK2 : Hid (∀ W, Kept [] w4 W → W.cell? ⟨bb, off + 17, none⟩ = some (.int .u8 (x17.toNat : Int)) ∧ W.cell? ⟨bb, off + 18, none⟩ = some (.int .u8 (x18.toNat : Int)) ∧ W.cell? ⟨bb, off + 19, none⟩ = some (.int .u8 (x19.toNat : Int))) := Lib.hid (fun W hk => ⟨g17 W (HK.out.andThen hk), g18 W (HK.out.andThen hk), g19 W (HK.out.andThen hk)⟩)
      have HG20 := Lib.hid g20
      have HG21 := Lib.hid g21
      have HG00 := Lib.hid g0
      obtain ⟨F1, hF1⟩ : ∃ F, frc ⟨List.replicate 16 0, (x17.toNat : Int), (x18.toNat : Int), (x19.toNat : Int), 0, []⟩ none 0 0 = F := ⟨_, rfl⟩
      have HF1b : Hid (Tryd.prog.built 28 [(1, .int .i64 (x17.toNat : Int)), (2, .int .i64 (x18.toNat : Int)), (3, .int .i64 (x19.toNat : Int))] = some F1.toArray) := Lib.hid (by rw [← hF1]; exact builtFr3 _ _ _)
      have HF1s : Hid ((Tryd.prog.info? 28).map (·.size) = some F1.length) := Lib.hid (by rw [← hF1]; exact frc_size (by simp))
      have HF1o : Hid (∀ v ∈ F1, v.oneCell' = true) := Lib.hid (by rw [← hF1]; exact frc_one _ _ _ _)
      have HF1l : Hid ((frc fr0 none 0 0).length = F1.length) := Lib.hid (by rw [← hF1, frc_length (f := fr0) (by unfold fr0; simp), frc_length (by simp)])
      have HF1 := Lib.hid hF1
      clear hF1 hpx e17 e18 e19 e20 e21 e0 g17 g18 g19 g20 g21 g0 hmn
      go_wp2
      have hHeld := SK2.out _ (Kept.refl [] w4).drew
      refine wp_region_begin (fun W => W.cell? ⟨bb, off + 17, none⟩ = some (.int .u8 (x17.toNat : Int)) ∧ W.cell? ⟨bb, off + 18, none⟩ = some (.int .u8 (x18.toNat : Int)) ∧ W.cell? ⟨bb, off + 19, none⟩ = some (.int .u8 (x19.toNat : Int))) (by kernel_rfl) ?_
      refine held_pureD 0 28 (Value.slice (some ⟨bb, off, none⟩) n c) rfl rfl (by kernel_rfl) (by kernel_rfl) (by kernel_rfl) rfl (fun w hS => rfl) hHeld ?_
      simp only [Act.put, List.setIfInBounds_toArray, List.set_cons_succ, List.set_cons_zero]
      refine held_pureD 1 29 (Value.pointer (some ⟨bb, off + 17, none⟩)) rfl rfl (by kernel_rfl) (by kernel_rfl) (by kernel_rfl) rfl (fun w hS => pureIxB (.tmp 28) (.const (.int .i64 17)) rfl bb off n c 17 rfl rfl (by have := Hm.out.1; omega) w) hHeld ?_
      simp only [Act.put, List.setIfInBounds_toArray, List.set_cons_succ, List.set_cons_zero]
      refine held_pureD 2 30 (.int .u8 (x17.toNat : Int)) rfl rfl (by kernel_rfl) (by kernel_rfl) (by kernel_rfl) rfl (fun w hS => pureByte (.tmp 29) rfl ⟨bb, off + 17, none⟩ _ rfl w hS.1) hHeld ?_
      simp only [Act.put, List.setIfInBounds_toArray, List.set_cons_succ, List.set_cons_zero]
      refine held_pureD 3 31 (.int .i64 (x17.toNat : Int)) rfl rfl (by kernel_rfl) (by kernel_rfl) (by kernel_rfl) rfl (fun w hS => pureU8I 3 (.tmp 30) rfl x17 rfl (by kernel_rfl) w) hHeld ?_
      simp only [Act.put, List.setIfInBounds_toArray, List.set_cons_succ, List.set_cons_zero]
      refine held_pureD 4 32 (Value.slice (some ⟨bb, off, none⟩) n c) rfl rfl (by kernel_rfl) (by kernel_rfl) (by kernel_rfl) rfl (fun w hS => rfl) hHeld ?_
      simp only [Act.put, List.setIfInBounds_toArray, List.set_cons_succ, List.set_cons_zero]
      refine held_pureD 5 33 (Value.pointer (some ⟨bb, off + 18, none⟩)) rfl rfl (by kernel_rfl) (by kernel_rfl) (by kernel_rfl) rfl (fun w hS => pureIxB (.tmp 32) (.const (.int .i64 18)) rfl bb off n c 18 rfl rfl (by have := Hm.out.1; omega) w) hHeld ?_
      simp only [Act.put, List.setIfInBounds_toArray, List.set_cons_succ, List.set_cons_zero]
      refine held_pureD 6 34 (.int .u8 (x18.toNat : Int)) rfl rfl (by kernel_rfl) (by kernel_rfl) (by kernel_rfl) rfl (fun w hS => pureByte (.tmp 33) rfl ⟨bb, off + 18, none⟩ _ rfl w hS.2.1) hHeld ?_
      simp only [Act.put, List.setIfInBounds_toArray, List.set_cons_succ, List.set_cons_zero]
      refine held_pureD 7 35 (.int .i64 (x18.toNat : Int)) rfl rfl (by kernel_rfl) (by kernel_rfl) (by kernel_rfl) rfl (fun w hS => pureU8I 3 (.tmp 34) rfl x18 rfl (by kernel_rfl) w) hHeld ?_
      simp only [Act.put, List.setIfInBounds_toArray, List.set_cons_succ, List.set_cons_zero]
      refine held_pureD 8 36 (Value.slice (some ⟨bb, off, none⟩) n c) rfl rfl (by kernel_rfl) (by kernel_rfl) (by kernel_rfl) rfl (fun w hS => rfl) hHeld ?_
      simp only [Act.put, List.setIfInBounds_toArray, List.set_cons_succ, List.set_cons_zero]
      refine held_pureD 9 37 (Value.pointer (some ⟨bb, off + 19, none⟩)) rfl rfl (by kernel_rfl) (by kernel_rfl) (by kernel_rfl) rfl (fun w hS => pureIxB (.tmp 36) (.const (.int .i64 19)) rfl bb off n c 19 rfl rfl (by have := Hm.out.1; omega) w) hHeld ?_
      simp only [Act.put, List.setIfInBounds_toArray, List.set_cons_succ, List.set_cons_zero]
      refine held_pureD 10 38 (.int .u8 (x19.toNat : Int)) rfl rfl (by kernel_rfl) (by kernel_rfl) (by kernel_rfl) rfl (fun w hS => pureByte (.tmp 37) rfl ⟨bb, off + 19, none⟩ _ rfl w hS.2.2) hHeld ?_
      simp only [Act.put, List.setIfInBounds_toArray, List.set_cons_succ, List.set_cons_zero]
      refine held_pureD 11 39 (.int .i64 (x19.toNat : Int)) rfl rfl (by kernel_rfl) (by kernel_rfl) (by kernel_rfl) rfl (fun w hS => pureU8I 3 (.tmp 38) rfl x19 rfl (by kernel_rfl) w) hHeld ?_
      simp only [Act.put, List.setIfInBounds_toArray, List.set_cons_succ, List.set_cons_zero]
      refine held_pureD 12 40 (.agg F1.toArray) rfl rfl (by kernel_rfl) (by kernel_rfl) (by kernel_rfl) rfl (fun w hS => pureBd 28 #[(1, .tmp 31), (2, .tmp 35), (3, .tmp 39)] rfl _ (by simpa [Act.eval] using HF1b.out) w) hHeld ?_
      simp only [Act.put, List.setIfInBounds_toArray, List.set_cons_succ, List.set_cons_zero]
      refine held_one 13 (by kernel_rfl) rfl ?_
      refine wpList_alloc_blk rfl 28 rfl _ zeroFr ?_
      intro w5 hQ5 hk5 hs5
      have hK5 := (Kept.refl [] w4).drew.andThen hk5
      obtain ⟨q, hq⟩ : ∃ q, q = w4.drew.heap.size := ⟨_, rfl⟩
      rw [← hq] at hQ5 ⊢
      have Hq : Hid (w.heap.size ≤ q ∧ r < q) := Lib.hid (by have h1 := HK.out.size; have h2 := HR.out.lt; have h3 : w4.drew.heap.size = w4.heap.size := rfl; omega)
      clear hq hs5
      go_wp2
      change _ ∧ wpAnyH _ _ _ _ _ _ _ _ _
      refine ⟨SK2.out _ hK5, ?_⟩
      refine held_one 14 (by kernel_rfl) rfl ?_
      refine wpList_store_blk rfl 28 (.tmp 7) (.tmp 40) rfl q F1 rfl rfl 28 _ hQ5 HF1s.out HF1l.out HF1o.out ?_
      intro w6 hQ6 hk6 hs6
      have hK6 : Kept [] w w6 := (HK.out.andThen hK5).trans hk6 (fun i hi => .inr (by have := List.mem_singleton.1 hi; have := Hq.out.1; omega))
      have hS6 := SK2.out w5 hK5
      have hq6 : Blk w6 r 28 L0 := (HR.out.kept0 hK5).kept hk6 (by have := Hq.out.2; simp; omega)
      have hK46 : Kept [q] w4 w6 := (hK5.mono (T := [q]) (by simp)).trans hk6 (fun i hi => .inl hi)
      have hS6 : w6.cell? ⟨bb, off + 17, none⟩ = some (.int .u8 (x17.toNat : Int)) ∧ w6.cell? ⟨bb, off + 18, none⟩ = some (.int .u8 (x18.toNat : Int)) ∧ w6.cell? ⟨bb, off + 19, none⟩ = some (.int .u8 (x19.toNat : Int)) := by
        have hn : ∀ j, w6.cell? ⟨bb, off + j, none⟩ = w5.cell? ⟨bb, off + j, none⟩ := fun j => hk6.cell (p := ⟨bb, off + j, none⟩) (by have h1 := HK.out.size; have h2 := hK5.size; show bb < w5.heap.size; have := Hbb.out; omega) (by have h1 := Hq.out.1; have := Hbb.out; simp; omega)
        rw [hn, hn, hn]
        exact SK2.out w5 hK5
      go_wp2
      change _ ∧ wpAnyH _ _ _ _ _ _ _ _ _
      refine ⟨hS6, ?_⟩
      refine held_done (by kernel_rfl) ?_
      have l20 := x20.toNat_lt
      have l21 := x21.toNat_lt
      have Hzl : Hid (0 ≤ 256 * (x20.toNat : Int) + (x21.toNat : Int) ∧ 256 * (x20.toNat : Int) + (x21.toNat : Int) ≤ 65535) := Lib.hid (by omega)
      have c20 := HG20.out w6 hK6
      have c21 := HG21.out w6 hK6
      have cQ : w6.cell? ⟨q, 19, none⟩ = some (.int .i64 0) := by rw [hQ6.cell, ← HF1.out]; exact frc_cls (by simp)
      have fQ : w6.frozen? ⟨q, 19, none⟩ = false := hQ6.frz 19
      have hQ7 := (hQ6.set 19 (.int .i64 (256 * (x20.toNat : Int) + (x21.toNat : Int)))).drew
      rw [← HF1.out, frc_set_cls (by simp)] at hQ7
      simp only at hQ7
      have HQ7 := Lib.hid hQ7
      have HK7 : Hid (Kept [] w (w6.setCell ⟨q, 19, none⟩ (.int .i64 (256 * (x20.toNat : Int) + (x21.toNat : Int)))).drew) := Lib.hid (hK6.setCell (.inr Hq.out.1) _).drew
      have HR7 : Hid (Blk (w6.setCell ⟨q, 19, none⟩ (.int .i64 (256 * (x20.toNat : Int) + (x21.toNat : Int)))).drew r 28 L0) := Lib.hid (hq6.set_other 19 _ (by have := Hq.out.2; omega)).drew
      have n20 : (20 : Int) < (n : Int) := by have := Hm.out.1; omega
      have n21 : (21 : Int) < (n : Int) := by have := Hm.out.1; omega
      clear hQ7 hQ6 hQ5 hq6 hK5 hK6 hk5 hk6 hs6 hK46 hS6 hHeld SK2 HF1b HF1s HF1o HF1l HF1 HR HK HG20 HG21
      go_wp2
      go_still_tail 11, (by kernel_rfl)
      change wpList _ _ _ _ _ w6.drew
      go_wp2
      clear c20 c21 cQ fQ l20 l21 n20 n21
      generalize (w6.setCell ⟨q, 19, none⟩ (.int .i64 (256 * (x20.toNat : Int) + (x21.toNat : Int)))).drew = w7 at *
      generalize 256 * (x20.toNat : Int) + (x21.toNat : Int) = zl at *
      go_loopw [8] (fun i wr => ∃ k : Nat, k ≤ 16 ∧ i = .int .i64 (k : Int) ∧ Hid (Blk wr q 28 (frc ⟨(b.drop 1).take k ++ List.replicate (16 - k) 0, (x17.toNat : Int), (x18.toNat : Int), (x19.toNat : Int), zl, []⟩ none 0 0)) ∧ Hid (Blk wr r 28 L0) ∧ Hid (Kept [] w wr)) (fun i _ => 16 - (intOf i).toNat)
      case atStart => exact ⟨0, by omega, rfl, Lib.hid (by simpa using HQ7.out), HR7, HK7⟩
      case round =>
        clear HQ7 HR7 HK7
        obtain ⟨k, hk, rfl, HQ, HRr, HK⟩ := hrel
        by_cases hlt : k < 16
        · have hmn := Hm.out.1
          obtain ⟨y8, e8, g8⟩ := Hb.out (1 + k) (by omega)
          have d1 := g8 wr HK.out
          have hol : ((b.drop 1).take k).length = k := by rw [List.length_take, List.length_drop]; have := HR0.out.len; omega
          have hol2 : ((b.drop 1).take k ++ List.replicate (16 - k) 0).length = 16 := by rw [List.length_append, hol, List.length_replicate]; omega
          have hse := set_mid ((b.drop 1).take k) (16 - k) y8 (by omega)
          have hts := take_step (b.drop 1) k y8 (by rw [List.getElem?_drop]; exact e8)
          rw [hol, ← hts, Nat.sub_sub] at hse
          have hQn := HQ.out.set k (.int .u8 (y8.toNat : Int))
          rw [frc_set_obj hol2 k hlt y8] at hQn
          simp only at hQn
          rw [hse] at hQn
          have HQn := Lib.hid hQn
          obtain ⟨u, d2⟩ : ∃ u, wr.cell? ⟨q, k, none⟩ = some u := ⟨_, HQ.out.cellD k (by rw [frc_length hol2]; omega)⟩
          have f2 := HQ.out.frz k
          have HRn : Hid (Blk (wr.setCell ⟨q, k, none⟩ (.int .u8 (y8.toNat : Int))) r 28 L0) := Lib.hid (HRr.out.set_other k _ (by have := Hq.out.2; omega))
          have HKn : Hid (Kept [] w (wr.setCell ⟨q, k, none⟩ (.int .u8 (y8.toNat : Int)))) := Lib.hid (HK.out.setCell (.inr Hq.out.1) _)
          have k16 : 1 + k < n := by omega
          clear hQn hse hts hol hol2 g8 e8 HQ HRr HK hmn
          go_wp2
          go_roundw
          case rel => exact ⟨k + 1, by omega, by go_num, HQn, HRn, HKn⟩
          case measure => simp [intOf]; omega
        · obtain rfl : k = 16 := by omega
          obtain ⟨O, hO⟩ : ∃ O, (b.drop 1).take 16 = O := ⟨_, rfl⟩
          have hOl : O.length = 16 := by rw [← hO, List.length_take, List.length_drop]; have h1 := HR0.out.len; have h2 := Hm.out.1; omega
          rw [show 16 - 16 = 0 from rfl, List.replicate_zero, List.append_nil, hO] at HQ
          rw [hO] at HTo
          have HOl := Lib.hid hOl
          have qm := Qm.out
          obtain ⟨t, d, er, ht⟩ : ∃ t d er, ttext (p.drop 22) 65536 = (t, d, er) := ⟨_, _, _, rfl⟩
          have HTx := Lib.hid ht
          clear hO hOl ht
          go_wp2_with fail
          refine (rfTakeText_any Am m c p 22 65536 _ (HRm.out.kept0 HK.out) (by omega) (by have := Hm.out.1; omega) (by omega) (by omega)).mono ?_
          rw [HTx.out]
          rintro e w8 ⟨v8, rfl, ho8, hk8, hf8⟩
          obtain ⟨A8, n8, c8, rfl, hr8, hb8⟩ := ho8.form
          have HR8 := Lib.hid hr8
          have HF8 : Hid (∀ z, (Value.slice A8 n8 c8).ownBlock = some z → w.heap.size ≤ z ∧ q < z) := Lib.hid (fun z hz => by have h1 := hf8 z hz; have h2 := HK.out.size; have h3 := HQ.out.lt; omega)
          have HQ8 := Lib.hid (HQ.out.kept0 hk8)
          have HRr8 := Lib.hid (HRr.out.kept0 hk8)
          have HK8 := Lib.hid (HK.out.andThen hk8)
          have Hb8 := Lib.hid hb8
          have Hlt8 : Hid (wr.heap.size ≤ w8.heap.size ∧ q < wr.heap.size ∧ r < wr.heap.size) := Lib.hid ⟨hk8.size, HQ.out.lt, HRr.out.lt⟩
          clear ho8 hk8 hf8 hr8 hb8 HQ HRr HK qm
          go_wp2_with (with_reducible change wpList _ _ _ (⟨_, Op.alloc _, _, _, _, _⟩ :: _) _ _; refine wpList_alloc_blk rfl 61 rfl _ zeroGot ?_)
          intro w9 hT9 hk9 hs9
          obtain ⟨x, hx⟩ : ∃ x, x = w8.heap.size := ⟨_, rfl⟩
          rw [← hx] at hT9 ⊢
          have Hx : Hid (w.heap.size ≤ x ∧ q < x ∧ r < x ∧ ∀ z, (Value.slice A8 n8 c8).ownBlock = some z → z < x) := Lib.hid ⟨by have := HK8.out.size; omega, by have := Hlt8.out; omega, by have := Hlt8.out; omega, fun z hz => by rw [hx]; exact Hb8.out z hz⟩
          clear hx hs9
          refine wpList_store_blk rfl 61 (.tmp 9) (.tmp 67) rfl x [.int .u64 0, .slice A8 n8 c8, .int .i64 (d : Int), .int .i64 (er : Int)] rfl ?a2 61 _ hT9 sizeGot ?a5 ?a6 ?_
          case a2 => rfl
          case a5 => rfl
          case a6 => simp [Value.oneCell']
          intro w10 hT10 hk10 hs10
          have hk8x : Kept [x] w8 w10 := (hk9.mono (T := [x]) (by simp)).trans hk10 (fun i hi => .inl hi)
          have HT := Lib.hid hT10
          have HK10 : Hid (Kept [] w w10) := Lib.hid (HK8.out.trans hk8x (fun i hi => .inr (by have := List.mem_singleton.1 hi; have := Hx.out.1; omega)))
          have HQ10 := Lib.hid (HQ8.out.kept hk8x (by have := Hx.out.2.1; simp; omega))
          have HR10 := Lib.hid (HRr8.out.kept hk8x (by have := Hx.out.2.2.1; simp; omega))
          have HRt10 := Lib.hid (HR8.out.kept hk8x (off_ownB (fun z hz hm => by have h1 := List.mem_singleton.1 hm; have h2 := Hx.out.2.2.2 z hz; omega)))
          have e1 : w10.cell? ⟨x, 1, none⟩ = some (.slice A8 n8 c8) := hT10.cell 1
          have e2 : w10.cell? ⟨x, 2, none⟩ = some (.int .i64 (d : Int)) := hT10.cell 2
          have e3 : w10.cell? ⟨x, 3, none⟩ = some (.int .i64 (er : Int)) := hT10.cell 3
          clear hT9 hk9 hT10 hk10 hs10 hk8x HQ8 HRr8 HR8 HK8 Hlt8 Hb8
          by_cases her : er = 0
          · subst her
            have HTx0 := HTx
            have cQ : w10.cell? ⟨q, 20, none⟩ = some (.slice none 0 0) := by rw [HQ10.out.cell]; exact frc_piece (by simpa using HOl.out)
            have fQ : w10.frozen? ⟨q, 20, none⟩ = false := HQ10.out.frz 20
            have hQ11 := HQ10.out.set 20 (.slice A8 n8 c8)
            rw [frc_set_piece (by simpa using HOl.out) A8 n8 c8 t] at hQ11
            simp only at hQ11
            have HQ11 := Lib.hid hQ11
            have hqk : Kept [q] w10 (w10.setCell ⟨q, 20, none⟩ (.slice A8 n8 c8)) := (Kept.refl [q] w10).setCell (.inl (by simp)) _
            have HK11 : Hid (Kept [] w (w10.setCell ⟨q, 20, none⟩ (.slice A8 n8 c8))) := Lib.hid (HK10.out.trans hqk (fun i hi => .inr (by have := List.mem_singleton.1 hi; have := Hq.out.1; omega)))
            have HR11 : Hid (Blk (w10.setCell ⟨q, 20, none⟩ (.slice A8 n8 c8)) r 28 L0) := Lib.hid (HR10.out.set_other 20 _ (by have := Hq.out.2; omega))
            have HRt11 := Lib.hid (HRt10.out.kept hqk (off_ownB (fun z hz hm => by have h1 := List.mem_singleton.1 hm; have h2 := HF8.out z hz; omega)))
            have e2' : (w10.setCell ⟨q, 20, none⟩ (.slice A8 n8 c8)).cell? ⟨x, 2, none⟩ = some (.int .i64 (d : Int)) := (hqk.cell (p := ⟨x, 2, none⟩) HT.out.lt (by have := Hx.out.2.1; simp; omega)).trans e2
            have c0 : (w10.setCell ⟨q, 20, none⟩ (.slice A8 n8 c8)).cell? ⟨bb, off, none⟩ = some (.int .u8 (x0.toNat : Int)) := by
              have := HG00.out _ HK11.out
              rwa [Nat.add_zero] at this
            have HFo : Hid ((p[0]?).getD 0 ≠ 241 ∨ 22 + d < p.length → y = (fr0, 2)) := Lib.hid (fun hf => by rw [HG.out]; exact frPick_form (by rw [Hpl.out]; exact h22) HTx.out hf)
            have HTl : Hid (¬ ((p[0]?).getD 0 ≠ 241 ∨ 22 + d < p.length) → y = if frRight ⟨O, (x17.toNat : Int), (x18.toNat : Int), (x19.toNat : Int), zl, t⟩ = true then (⟨O, (x17.toNat : Int), (x18.toNat : Int), (x19.toNat : Int), zl, t⟩, 0) else (fr0, 14)) := Lib.hid (fun hf => by rw [HG.out, frPick_told (by rw [Hpl.out]; exact h22) HTx.out hf, HTo.out t])
            rw [Hx0.out, Hpl.out] at HFo HTl
            have HR := HR11
            have HK := HK11
            have hd9 : d ≤ 100000 := by
              have h1 := ttext_le HTx.out
              rw [List.length_drop, Hpl.out] at h1
              have := Hm.out.1
              omega
            have hn0 : (0 : Int) < (n : Int) := by omega
            have e3' : w10.cell? ⟨x, 3, none⟩ = some (.int .i64 0) := e3
            clear hQ11 hqk e2 e3 HT HQ10 HR10 HK10 HRt10 HR11 HK11 HG HTx HTx0
            by_cases hf : x0 ≠ 241
            · have hx0 : ((x0.toNat : Int) != 241) = true := by
                have : x0.toNat ≠ 241 := fun e => hf (UInt8.toNat_inj.1 (by rw [e]; rfl))
                simp; omega
              have HG := Lib.hid (HFo.out (.inl hf))
              clear hf HFo HTl
              go_wp2_with (with_reducible change wpList _ _ _ (⟨_, Op.store _ _ _, _, _, _, _⟩ :: _) _ _; refine wpList_store_blk rfl 28 (.tmp 4) (.tmp 88) rfl r L0 rfl ?a2 28 L0 HR.out Hsz0.out rfl Hon0.out ?_)
              case a2 => rw [← HL0.out, frc_zero]; rfl
              intro wz hRz hkz hsz
              go_wp2
              refine bodyPost_ret (results_blk2 rfl _ r 28 _ _ _ rfl rfl hRz Tryd.underlying28 rfl Hsz0.out) rfl ?_
              have hKz : Kept [] w wz := HK.out.trans hkz (fun i hi => .inr (by have := List.mem_singleton.1 hi; have := Hr.out; omega))
              rw [HG.out]
              exact ⟨none, 0, 0, by rw [HL0.out]; rfl, fr0_at _, hKz, by simp [Value.ownBlock]⟩
            · have hx0 : ((x0.toNat : Int) != 241) = false := by
                have : x0 = 241 := Decidable.not_not.1 hf
                rw [this]; rfl
              by_cases hf2 : 22 + d < m
              · have hlt2 : 22 + (d : Int) < (m : Int) := by omega
                have HG := Lib.hid (HFo.out (.inr hf2))
                clear hf hf2 HFo HTl
                go_wp2_with (with_reducible change wpList _ _ _ (⟨_, Op.store _ _ _, _, _, _, _⟩ :: _) _ _; refine wpList_store_blk rfl 28 (.tmp 4) (.tmp 88) rfl r L0 rfl ?a2 28 L0 HR.out Hsz0.out rfl Hon0.out ?_)
                case a2 => rw [← HL0.out, frc_zero]; rfl
                intro wz hRz hkz hsz
                go_wp2
                refine bodyPost_ret (results_blk2 rfl _ r 28 _ _ _ rfl rfl hRz Tryd.underlying28 rfl Hsz0.out) rfl ?_
                have hKz : Kept [] w wz := HK.out.trans hkz (fun i hi => .inr (by have := List.mem_singleton.1 hi; have := Hr.out; omega))
                rw [HG.out]
                exact ⟨none, 0, 0, by rw [HL0.out]; rfl, fr0_at _, hKz, by simp [Value.ownBlock]⟩
              · have hlt2 : ¬ 22 + (d : Int) < (m : Int) := by omega
                have HG := Lib.hid (HTl.out (fun h => h.elim hf hf2))
                clear hf hf2 HFo HTl
                have HOf := HOl
                obtain ⟨f2, hf2⟩ : ∃ f2 : Fr, (⟨O, (x17.toNat : Int), (x18.toNat : Int), (x19.toNat : Int), zl, t⟩ : Fr) = f2 := ⟨_, rfl⟩
                have HFA : Hid (FrAt (w10.setCell ⟨q, 20, none⟩ (.slice A8 n8 c8)) f2 A8 n8 c8) := Lib.hid (by
                  rw [← hf2]
                  have l17 := x17.toNat_lt
                  have l18 := x18.toNat_lt
                  have l19 := x19.toNat_lt
                  have lz := Hzl.out
                  exact ⟨HOl.out, ⟨by simp only; omega, by simp only; omega⟩, ⟨by simp only; omega, by simp only; omega⟩, ⟨by simp only; omega, by simp only; omega⟩, ⟨by simp only; omega, by simp only; omega⟩, HRt11.out⟩)
                rw [hf2] at HG HQ11
                have HRi : Hid (∀ W, FrAt W f2 A8 n8 c8 → Calls Tryd.prog 14 #[.agg (frc f2 A8 n8 c8).toArray] W fun e w' => e = .returned (.bool (frRight f2)) ∧ Kept [] W w') := Lib.hid (fun W hW => rRi_any f2 A8 n8 c8 W hW)
                have Hs2 := Lib.hid (frc_size (A := A8) (n := n8) (c := c8) HFA.out.obj)
                have Ho2 := Lib.hid (frc_one f2 A8 n8 c8)
                have Hl2 : Hid (L0.length = (frc f2 A8 n8 c8).length) := Lib.hid (by rw [← HL0.out, frc_length (f := fr0) (by unfold fr0; simp), frc_length HFA.out.obj])
                obtain ⟨rb, hrb⟩ : ∃ rb, frRight f2 = rb := ⟨_, rfl⟩
                obtain ⟨L2, hL2⟩ : ∃ L2, frc f2 A8 n8 c8 = L2 := ⟨_, rfl⟩
                rw [hrb] at HG HRi
                rw [hL2] at HRi Hs2 Ho2 Hl2 HQ11
                have HL2 := Lib.hid hL2
                clear hrb hL2 hf2 HRt11
                go_wp2_with (with_reducible change wpList _ _ _ (⟨_, Op.load 28 _, _, _, _, _⟩ :: _) _ _; refine wpList_load_blk rfl 28 (.tmp 7) rfl q rfl 28 L2 _ HQ11.out Tryd.underlying28 rfl Hs2.out ?_)
                refine (HRi.out _ HFA.out).mono ?_
                rintro e w12 ⟨rfl, hk12⟩
                have HR12 := Lib.hid (HR.out.kept0 hk12)
                have HK12 := Lib.hid (HK.out.andThen hk12)
                have HQ12 := Lib.hid (HQ11.out.kept0 hk12)
                have HFA12 := Lib.hid (HFA.out.kept0 hk12)
                clear hk12 HR HK HQ11 HFA HRi e1 e2' e3' c0 cQ fQ
                have HR := HR12
                have HK := HK12
                cases rb with
                | false =>
                  have HG2 : Hid (y = (fr0, 14)) := Lib.hid (by rw [HG.out]; rfl)
                  go_wp2_with (with_reducible change wpList _ _ _ (⟨_, Op.store _ _ _, _, _, _, _⟩ :: _) _ _; refine wpList_store_blk rfl 28 (.tmp 4) (.tmp 92) rfl r L0 rfl ?a2 28 L0 HR.out Hsz0.out rfl Hon0.out ?_)
                  case a2 => rw [← HL0.out, frc_zero]; rfl
                  intro wz hRz hkz hsz
                  go_wp2
                  refine bodyPost_ret (results_blk2 rfl _ r 28 _ _ _ rfl rfl hRz Tryd.underlying28 rfl Hsz0.out) rfl ?_
                  have hKz : Kept [] w wz := HK.out.trans hkz (fun i hi => .inr (by have := List.mem_singleton.1 hi; have := Hr.out; omega))
                  rw [HG2.out]
                  exact ⟨none, 0, 0, by rw [HL0.out]; rfl, fr0_at _, hKz, by simp [Value.ownBlock]⟩
                | true =>
                  have HG2 : Hid (y = (f2, 0)) := Lib.hid (by rw [HG.out]; rfl)
                  go_wp2_with (first
                    | (with_reducible change wpList _ _ _ (⟨_, Op.load 28 _, _, _, _, _⟩ :: _) _ _; refine wpList_load_blk rfl 28 (.tmp 7) rfl q rfl 28 L2 _ HQ12.out Tryd.underlying28 rfl Hs2.out ?_)
                    | (with_reducible change wpList _ _ _ (⟨_, Op.store 28 _ _, _, _, _, _⟩ :: _) _ _; refine wpList_store_blk rfl 28 (.tmp 4) (.tmp 93) rfl r L2 rfl rfl 28 L0 HR12.out Hs2.out Hl2.out Ho2.out ?_))
                  intro wz hRz hkz hsz
                  go_wp2
                  refine bodyPost_ret (results_blk2 rfl _ r 28 _ _ _ rfl rfl hRz Tryd.underlying28 rfl Hs2.out) rfl ?_
                  have hKz : Kept [] w wz := HK12.out.trans hkz (fun i hi => .inr (by have := List.mem_singleton.1 hi; have := Hr.out; omega))
                  rw [HG2.out]
                  refine ⟨A8, n8, c8, by rw [HL2.out]; rfl, HFA12.out.kept hkz (fun _ => off_ownB (fun z hz hm => by have h1 := List.mem_singleton.1 hm; have h2 := HF8.out z hz; have h3 := Hq.out.2; omega)), hKz, fun z hz => (HF8.out z hz).1⟩
          · have hne : ((er : Int) != 0) = true := by simp; omega
            have HG2 : Hid (y = (fr0, er)) := Lib.hid (by rw [HG.out, frPick_text (by rw [Hpl.out]; exact h22) HTx.out her])
            have SK3 : Hid (∀ W, Kept [] w10 W → W.cell? ⟨x, 3, none⟩ = some (.int .i64 (er : Int))) := Lib.hid (fun W hk => (hk.cell (p := ⟨x, 3, none⟩) HT.out.lt (by simp)).trans e3)
            go_wp2
            have hHeld := SK3.out _ (Kept.refl [] w10).drew
            refine wp_region_begin (fun W => W.cell? ⟨x, 3, none⟩ = some (.int .i64 (er : Int))) (by kernel_rfl) ?_
            refine held_pureD 0 71 (.agg L0.toArray) rfl rfl (by kernel_rfl) (by kernel_rfl) (by kernel_rfl) rfl (fun w hS => pureBd 28 #[] rfl _ (HB0.out _) w) hHeld ?_
            simp only [Act.put, List.setIfInBounds_toArray, List.set_cons_succ, List.set_cons_zero]
            refine held_pureD 1 72 (Value.pointer (some ⟨x, 3, none⟩)) rfl rfl (by kernel_rfl) (by kernel_rfl) (by kernel_rfl) rfl (fun w hS => rfl) hHeld ?_
            simp only [Act.put, List.setIfInBounds_toArray, List.set_cons_succ, List.set_cons_zero]
            refine held_pureD 2 73 (.int .i64 (er : Int)) rfl rfl (by kernel_rfl) (by kernel_rfl) (by kernel_rfl) rfl (fun w hS => pureC 3 (.tmp 72) rfl ⟨x, 3, none⟩ _ rfl (fun w => by kernel_rfl) w hS) hHeld ?_
            simp only [Act.put, List.setIfInBounds_toArray, List.set_cons_succ, List.set_cons_zero]
            refine held_one 3 (by kernel_rfl) rfl ?_
            refine wpList_store_blk rfl 28 (.tmp 4) (.tmp 71) rfl r L0 rfl rfl 28 L0 HR10.out.drew Hsz0.out rfl Hon0.out ?_
            intro wz hRz hkz hsz
            have hSz : wz.cell? ⟨x, 3, none⟩ = some (.int .i64 (er : Int)) := (hkz.cell (p := ⟨x, 3, none⟩) HT.out.lt (by have := Hx.out.2.2.1; simp; omega)).trans (SK3.out _ (Kept.refl [] w10).drew)
            go_wp2
            change _ ∧ wpAnyH _ _ _ _ _ _ _ _ _
            refine ⟨hSz, ?_⟩
            refine held_one 4 (by kernel_rfl) rfl ?_
            go_wp2
            change _ ∧ wpAnyH _ _ _ _ _ _ _ _ _
            refine ⟨hSz, ?_⟩
            refine held_done (by kernel_rfl) ?_
            go_wp2
            refine bodyPost_ret (results_blk2 rfl _ r 28 _ _ _ rfl rfl hRz Tryd.underlying28 rfl Hsz0.out) rfl ?_
            have hKz : Kept [] w wz := (HK10.out.drew).trans hkz (fun i hi => .inr (by have := List.mem_singleton.1 hi; have := Hr.out; omega))
            rw [HG2.out]
            exact ⟨none, 0, 0, by rw [HL0.out]; rfl, fr0_at _, hKz, by simp [Value.ownBlock]⟩

theorem rGt_any (key : List UInt8) (A : Option Addr) (n c : Nat) (b : List UInt8) (w : World) (hkl : key.length = 32) (hr : RdB w A n c b) (hn2 : n ≤ 10000) :
    Calls Tryd.prog 16 #[.agg (bvs key).toArray, .slice A n c] w (FrRet (frGet key b).1 (frGet key b).2 w) := by
  rcases Nat.lt_or_ge n 32 with h | h
  · exact rGt_short key A n c b w hr h
  · exact rGt_long key A n c b w hkl hr h hn2
end Go.Proofs.YtibcjbelcplpjaaDoor
