/-
  Helper words on memory for layer 8: rows of bytes that lie in one block, a block of slices of them. No statement of the seed is proved here.
-/
import Derived.Test.YtmfbgogfefgglaaMtA
import Derived.Test.YtmfbgogfefgglaaGfMath
import Derived.Test.YtmfbgogfefgglaaSetC
import Derived.Test.YtmfbgogfefgglaaRdL
import Derived.Test.YtmfbgogfefgglaaMemV
namespace Go.Proofs.Ytmfbgogfefgglaa
open Go.RowKit
set_option linter.unusedVariables false

/-- The first n of a row that is told by a function. -/
def rm {α : Type} (n : Nat) (f : Nat → α) : List α := (List.range n).map f
section
variable {α β : Type} {n : Nat} {f g : Nat → α}
theorem rm_length (n : Nat) (f : Nat → α) : (rm n f).length = n := by simp [rm]
theorem rm_get {i : Nat} (h : i < n) : (rm n f)[i]? = some (f i) := by simp [rm, h]
theorem rm_none {i : Nat} (h : n ≤ i) : (rm n f)[i]? = none := by simp [rm, h]
theorem rm_congr (h : ∀ i, i < n → f i = g i) : rm n f = rm n g := by
  unfold rm
  exact List.map_congr_left fun i hi => h i (List.mem_range.1 hi)
theorem rm_ext {l : List α} (hl : l.length = n) (h : ∀ i, i < n → l[i]? = some (f i)) : l = rm n f := by
  apply List.ext_getElem?
  intro i
  by_cases hi : i < n
  · rw [h i hi, rm_get hi]
  · rw [rm_none (by omega), List.getElem?_eq_none (by omega)]
theorem rm_set (i : Nat) (v : α) : (rm n f).set i v = rm n (fun a => if a = i then v else f a) := by
  refine rm_ext (by rw [List.length_set, rm_length]) (fun a ha => ?_)
  rw [List.getElem?_set, rm_length]
  by_cases e : i = a
  · rw [if_pos e, if_pos (by omega), if_pos e.symm]
  · rw [if_neg e, rm_get ha, if_neg (fun x => e x.symm)]
theorem rm_map (h : α → β) : (rm n f).map h = rm n (fun i => h (f i)) := by simp [rm]
theorem rm_snoc (n : Nat) (f : Nat → α) : rm (n + 1) f = rm n f ++ [f n] := by simp [rm, List.range_succ]
end
theorem rm_zero {α : Type} (f : Nat → α) : rm 0 f = [] := rfl
theorem bvs_rm (k : Nat) (f : Nat → UInt8) : bvs (rm k f) = rm k (fun j => bcell (f j)) := by unfold bvs; exact rm_map _

/-- The rows of a matrix that is told by a function. -/
def ofm (n k : Nat) (m : Nat → Nat → GB) : List (List UInt8) := rm n (fun i => rm k (fun j => (m i j).v))
/-- What stands in rows of bytes. -/
def ent (ls : List (List UInt8)) (i j : Nat) : GB := ⟨(ls.getD i []).getD j 0⟩
theorem ofm_congr {n k : Nat} {m m' : Nat → Nat → GB} (h : ∀ i, i < n → ∀ j, j < k → m i j = m' i j) : ofm n k m = ofm n k m' :=
  rm_congr fun i hi => rm_congr fun j hj => by rw [h i hi j hj]
theorem ofm_length (n k : Nat) (m : Nat → Nat → GB) : (ofm n k m).length = n := rm_length _ _
theorem ofm_get {n k i : Nat} {m : Nat → Nat → GB} (h : i < n) : (ofm n k m)[i]? = some (rm k (fun j => (m i j).v)) := rm_get h
theorem ofm_ent {ls : List (List UInt8)} {n k : Nat} (hn : ls.length = n) (hk : ∀ l ∈ ls, l.length = k) : ls = ofm n k (ent ls) := by
  refine rm_ext hn (fun i hi => ?_)
  have hil : i < ls.length := by omega
  rw [List.getElem?_eq_getElem hil]
  congr 1
  refine rm_ext (hk _ (List.getElem_mem hil)) (fun j hj => ?_)
  have hjl : j < (ls[i]).length := by rw [hk _ (List.getElem_mem hil)]; exact hj
  rw [List.getElem?_eq_getElem hjl]
  congr 1
  unfold ent
  simp [List.getD, hil, hjl]
theorem ofm_inj {n k : Nat} {m m' : Nat → Nat → GB} (h : ofm n k m = ofm n k m') : ∀ i, i < n → ∀ j, j < k → m i j = m' i j := by
  intro i hi j hj
  have h1 := congrArg (fun l => l[i]?) h
  simp only [ofm_get hi] at h1
  have h2 := congrArg (fun l => l[j]?) (Option.some.inj h1)
  simp only [rm_get hj] at h2
  have h3 := Option.some.inj h2
  cases hx : m i j; cases hy : m' i j
  rw [hx, hy] at h3
  exact congrArg GB.mk h3

/-- Behind some steps the row at o holds y, and nothing else turned. -/
structure Wrt (G : Nat) (w : World) (o k : Nat) (y : Nat → GB) (wr : World) : Prop where
  blk : ∃ cs, Blk wr G 5 cs
  row : ∀ j, j < k → wr.cell? ⟨G, o + j, none⟩ = some (bcell (y j).v)
  out : ∀ q, (∀ j, j < k → q ≠ o + j) → wr.cell? ⟨G, q, none⟩ = w.cell? ⟨G, q, none⟩
  kept : Kept [G] w wr
section
variable {G o k : Nat} {w wr w' : World} {y x : Nat → GB}
theorem Wrt.refl (hB : ∃ cs, Blk w G 5 cs) (hy : ∀ j, j < k → w.cell? ⟨G, o + j, none⟩ = some (bcell (y j).v)) : Wrt G w o k y w := ⟨hB, hy, fun _ _ => rfl, Kept.refl _ _⟩
theorem Wrt.congr (h : Wrt G w o k y wr) (e : ∀ j, j < k → y j = x j) : Wrt G w o k x wr := ⟨h.blk, fun j hj => by rw [← e j hj]; exact h.row j hj, h.out, h.kept⟩
theorem Wrt.lt (h : Wrt G w o k y wr) : G < wr.heap.size := by obtain ⟨cs, hB⟩ := h.blk; exact hB.lt
theorem Wrt.then0 (h : Wrt G w o k y wr) (hk : Kept [] wr w') : Wrt G w o k y w' := by
  obtain ⟨cs, hB⟩ := h.blk
  exact ⟨⟨cs, hB.kept0 hk⟩, fun j hj => (hk.cell (p := ⟨G, o + j, none⟩) h.lt (by simp)).trans (h.row j hj), fun q hq => (hk.cell (p := ⟨G, q, none⟩) h.lt (by simp)).trans (h.out q hq), h.kept.andThen hk⟩
theorem Wrt.from0 (h : Wrt G wr o k y w') (hk : Kept [] w wr) (hG : G < w.heap.size) : Wrt G w o k y w' :=
  ⟨h.blk, h.row, fun q hq => (h.out q hq).trans (hk.cell (p := ⟨G, q, none⟩) hG (by simp)), (hk.mono (by simp)).trans h.kept (by simp)⟩
theorem Wrt.trans {w'' : World} (h : Wrt G w o k y wr) (h' : Wrt G wr o k x w'') : Wrt G w o k x w'' :=
  ⟨h'.blk, h'.row, fun q hq => (h'.out q hq).trans (h.out q hq), h.kept.trans h'.kept (by simp)⟩
theorem cell_set {cs : List Value} {t : TypeId} (hB : Blk w G t cs) {p q : Nat} {u : Value} (hp : w.cell? ⟨G, p, none⟩ = some u) (v : Value) : (w.setCell ⟨G, p, none⟩ v).cell? ⟨G, q, none⟩ = if q = p then some v else w.cell? ⟨G, q, none⟩ := by
  rw [(hB.set p v).cell, List.getElem?_set]
  rw [hB.cell] at hp ⊢
  have hl := (List.getElem?_eq_some_iff.1 hp).1
  by_cases e : p = q
  · rw [if_pos e, if_pos hl, if_pos e.symm]
  · rw [if_neg e, if_neg (fun x => e x.symm)]
theorem Wrt.set (h : Wrt G w o k y wr) {j : Nat} (hj : j < k) (v : GB) : Wrt G w o k (fun a => if a = j then v else y a) (wr.setCell ⟨G, o + j, none⟩ (bcell v.v)) := by
  obtain ⟨cs, hB⟩ := h.blk
  refine ⟨⟨_, hB.set _ _⟩, fun a ha => ?_, fun q hq => ?_, h.kept.setCell (.inl (by simp)) _⟩
  · rw [cell_set hB (h.row j hj)]
    show _ = some (bcell (if a = j then v else y a).v)
    by_cases e : a = j
    · rw [if_pos (by omega), if_pos e]
    · rw [if_neg (by omega), if_neg e]; exact h.row a ha
  · rw [cell_set hB (h.row j hj), if_neg (hq j hj)]; exact h.out q hq
/-- A place outside of the row. -/
theorem Wrt.far (h : Wrt G w o k y wr) {b q : Nat} {u : Value} (hc : w.cell? ⟨b, q, none⟩ = some u) (hb : b = G → ∀ j, j < k → q ≠ o + j) : wr.cell? ⟨b, q, none⟩ = some u := by
  by_cases e : b = G
  · subst e; rw [h.out q (hb rfl)]; exact hc
  · rw [h.kept.cell (p := ⟨b, q, none⟩) (World.block_lt_of_cell? w _ hc) (by simpa using e)]; exact hc
end

/-- The matrix m of one's own: the block R holds slices of rows in the block G. -/
structure OwM (w : World) (R G n k : Nat) (off : Nat → Nat) (m : Nat → Nat → GB) : Prop where
  ne : R ≠ G
  rows : Blk w R 37 (rm n fun i => .slice (some ⟨G, off i, none⟩) k k)
  blk : ∃ cs, Blk w G 5 cs
  bytes : ∀ i, i < n → ∀ j, j < k → w.cell? ⟨G, off i + j, none⟩ = some (bcell (m i j).v)
  apart : ∀ i, i < n → ∀ i', i' < n → i ≠ i' → ∀ j, j < k → ∀ j', j' < k → off i + j ≠ off i' + j'
section
variable {w w' : World} {R G n k : Nat} {off : Nat → Nat} {m m' : Nat → Nat → GB} {S : List Nat}
theorem OwM.ltR (h : OwM w R G n k off m) : R < w.heap.size := h.rows.lt
theorem OwM.ltG (h : OwM w R G n k off m) : G < w.heap.size := by obtain ⟨cs, hB⟩ := h.blk; exact hB.lt
theorem OwM.frzR (h : OwM w R G n k off m) (j : Nat) : w.frozen? ⟨R, j, none⟩ = false := h.rows.frz j
theorem OwM.frzG (h : OwM w R G n k off m) (j : Nat) : w.frozen? ⟨G, j, none⟩ = false := by obtain ⟨cs, hB⟩ := h.blk; exact hB.frz j
theorem OwM.row (h : OwM w R G n k off m) {i : Nat} (hi : i < n) : w.cell? ⟨R, i, none⟩ = some (.slice (some ⟨G, off i, none⟩) k k) := by rw [h.rows.cell, rm_get hi]
theorem OwM.byte (h : OwM w R G n k off m) {i j : Nat} (hi : i < n) (hj : j < k) : w.cell? ⟨G, off i + j, none⟩ = some (.int .u8 ((m i j).v.toNat : Int)) := h.bytes i hi j hj
theorem OwM.kept (h : OwM w R G n k off m) (hk : Kept S w w') (hR : R ∉ S) (hG : G ∉ S) : OwM w' R G n k off m := by
  obtain ⟨cs, hB⟩ := h.blk
  exact ⟨h.ne, h.rows.kept hk hR, ⟨cs, hB.kept hk hG⟩, fun i hi j hj => (hk.cell (p := ⟨G, off i + j, none⟩) h.ltG hG).trans (h.bytes i hi j hj), h.apart⟩
theorem OwM.kept0 (h : OwM w R G n k off m) (hk : Kept [] w w') : OwM w' R G n k off m := h.kept hk (by simp) (by simp)
theorem OwM.congr (h : OwM w R G n k off m) (e : ∀ i, i < n → ∀ j, j < k → m i j = m' i j) : OwM w R G n k off m' := ⟨h.ne, h.rows, h.blk, fun i hi j hj => by rw [← e i hi j hj]; exact h.bytes i hi j hj, h.apart⟩
theorem OwM.wrt (h : OwM w R G n k off m) {i : Nat} (hi : i < n) {y : Nat → GB} (hW : Wrt G w (off i) k y w') : OwM w' R G n k off (fun a b => if a = i then y b else m a b) := by
  refine ⟨h.ne, h.rows.kept hW.kept (by simpa using h.ne), hW.blk, fun a ha j hj => ?_, h.apart⟩
  show _ = some (bcell (if a = i then y j else m a j).v)
  by_cases e : a = i
  · subst e; rw [if_pos rfl]; exact hW.row j hj
  · rw [if_neg e, hW.out _ (fun j' hj' => h.apart a ha i hi e j hj j' hj')]; exact h.bytes a ha j hj
theorem OwM.wrt0 (h : OwM w R G n k off m) {i : Nat} (hi : i < n) : Wrt G w (off i) k (m i) w := Wrt.refl h.blk (h.bytes i hi)
theorem OwM.set (h : OwM w R G n k off m) {i j : Nat} (hi : i < n) (hj : j < k) (v : GB) : OwM (w.setCell ⟨G, off i + j, none⟩ (bcell v.v)) R G n k off (fun a b => if a = i then (if b = j then v else m i b) else m a b) :=
  h.wrt hi ((h.wrt0 hi).set hj v)
theorem OwM.swap (h : OwM w R G n k off m) {r q : Nat} (hr : r < n) (hq : q < n) :
    OwM ((w.setCell ⟨R, r, none⟩ (.slice (some ⟨G, off q, none⟩) k k)).setCell ⟨R, q, none⟩ (.slice (some ⟨G, off r, none⟩) k k)) R G n k (fun i => off (swi r q i)) (fun i => m (swi r q i)) := by
  have h1 := (h.rows.set r (.slice (some ⟨G, off q, none⟩) k k)).set q (.slice (some ⟨G, off r, none⟩) k k)
  rw [rm_set, rm_set] at h1
  have hK : Kept [R] w ((w.setCell ⟨R, r, none⟩ (.slice (some ⟨G, off q, none⟩) k k)).setCell ⟨R, q, none⟩ (.slice (some ⟨G, off r, none⟩) k k)) := ((Kept.refl [R] w).setCell (.inl (by simp)) _).setCell (.inl (by simp)) _
  have hG : G ∉ [R] := by simpa using fun e => h.ne e.symm
  obtain ⟨cs, hB⟩ := h.blk
  refine ⟨h.ne, h1.of_eq (rm_congr fun i hi => ?_), ⟨cs, hB.kept hK hG⟩, fun i hi j hj => ?_, fun i hi i' hi' hne j hj j' hj' => ?_⟩
  · unfold swi
    by_cases e1 : i = q
    · by_cases e2 : i = r
      · rw [if_pos e1, if_pos e2, ← e1, e2]
      · rw [if_pos e1, if_neg e2, if_pos e1]
    · by_cases e2 : i = r
      · rw [if_neg e1, if_pos e2, if_pos e2]
      · rw [if_neg e1, if_neg e2, if_neg e2, if_neg e1]
  · rw [hK.cell (p := ⟨G, off (swi r q i) + j, none⟩) h.ltG hG]; exact h.bytes _ (swi_lt hr hq hi) j hj
  · exact h.apart _ (swi_lt hr hq hi) _ (swi_lt hr hq hi') (fun e => hne (by rw [← swi_swi r q i, e, swi_swi])) j hj j' hj'
theorem OwM.rdb (h : OwM w R G n k off m) {i : Nat} (hi : i < n) (hk : k ≤ maxLen) : RdB w (some ⟨G, off i, none⟩) k k (rm k fun j => (m i j).v) :=
  ⟨rm_length _ _, Nat.le_refl _, hk, fun _ => ⟨G, off i, rfl, fun j hj => by
    rw [rm_length] at hj
    rw [h.bytes i hi j hj]
    congr 2
    exact (Option.some.inj ((List.getElem?_eq_getElem (by rw [rm_length]; exact hj)).symm.trans (rm_get (f := fun j => (m i j).v) hj))).symm⟩⟩
theorem OwM.rdl (h : OwM w R G n k off m) (hn : n ≤ maxLen) (hk : k ≤ maxLen) : RdL w (some ⟨R, 0, none⟩) n n (ofm n k m) :=
  ⟨ofm_length _ _ _, Nat.le_refl _, hn, fun _ => ⟨R, 0, rfl, h.ltR, fun j hj => by
    rw [ofm_length] at hj
    refine ⟨_, _, _, by rw [Nat.zero_add]; exact h.row hj, ?_⟩
    have e : (ofm n k m)[j]'(by rw [ofm_length]; exact hj) = rm k (fun b => (m j b).v) := Option.some.inj ((List.getElem?_eq_getElem (by rw [ofm_length]; exact hj)).symm.trans (ofm_get hj))
    rw [e]
    exact h.rdb hj hk⟩⟩
end

/-- Rows that lie anywhere, of one length: row i, byte j. -/
theorem RdL.mrow {w : World} {A : Option Addr} {n c k : Nat} {m : Nat → Nat → GB} (h : RdL w A n c (ofm n k m)) (hk : 0 < k) {i : Nat} (hi : i < n) :
    ∃ b o bo of c', A = some ⟨b, o, none⟩ ∧ b < w.heap.size ∧ w.cell? ⟨b, o + i, none⟩ = some (.slice (some ⟨bo, of, none⟩) k c') ∧ bo < w.heap.size ∧ k ≤ c' ∧ c' ≤ maxLen ∧ ∀ j, j < k → w.cell? ⟨bo, of + j, none⟩ = some (bcell (m i j).v) := by
  obtain ⟨b, o, Ak, nk, ck, l, e, hb, hc, hl, hr⟩ := h.at_ hi
  rw [ofm_get hi] at hl
  obtain rfl := Option.some.inj hl
  have hn := hr.len
  rw [rm_length] at hn
  subst hn
  obtain ⟨bo, of, rfl, hbo, hcs⟩ := hr.at_ hk
  refine ⟨b, o, bo, of, ck, e, hb, hc, hbo, hr.cap, hr.most, fun j hj => ?_⟩
  rw [hcs j (by rw [rm_length]; exact hj)]
  congr 2
  exact Option.some.inj ((List.getElem?_eq_getElem (by rw [rm_length]; exact hj)).symm.trans (rm_get (f := fun j => (m i j).v) hj))

theorem splice_get {α : Type} (L : List α) (off : Nat) (vs : List α) (h : off + vs.length ≤ L.length) (q : Nat) : (splice L off vs)[q]? = if q < off then L[q]? else if q < off + vs.length then vs[q - off]? else L[q]? := by
  unfold splice
  have e1 : (L.take off).length = off := by rw [List.length_take]; omega
  by_cases h1 : q < off
  · rw [if_pos h1, List.getElem?_append_left (by omega), List.getElem?_take, if_pos h1]
  · rw [if_neg h1, List.getElem?_append_right (by omega), e1]
    by_cases h2 : q < off + vs.length
    · rw [if_pos h2, List.getElem?_append_left (by omega)]
    · rw [if_neg h2, List.getElem?_append_right (by omega), List.getElem?_drop]
      congr 1
      omega
/-- copy(row, text), the text no longer than the row. -/
theorem wpList_copy_wrt {P : Program} {w : World} {ops : Array Oper} {rest : List Oper} {o : Oper} {a : Act} {Q : Exit → Act → World → Prop} (hgd : o.guard = none) (d s : Operand) (dT sT : TypeId)
    (ho : o.op = .call { callee := .builtin .copy, args := #[d, s], argTypes := #[dT, sT] }) (elem : TypeId) (hu : P.underlying dT = some (.slice elem)) (hsz : (P.info? elem).map (·.size) = some 1)
    (G off k dc b ob n sc : Nat) (hd : a.eval d = .slice (some ⟨G, off, none⟩) k dc) (hs : a.eval s = .slice (some ⟨b, ob, none⟩) n sc) (hnk : n ≤ k)
    (hB : ∃ cs, Blk w G 5 cs) (y x : Nat → GB) (hy : ∀ j, j < k → w.cell? ⟨G, off + j, none⟩ = some (bcell (y j).v)) (hx : ∀ j, j < n → w.cell? ⟨b, ob + j, none⟩ = some (bcell (x j).v))
    (h : ∀ w', Wrt G w off k (fun j => if j < n then x j else y j) w' → wpList P ops Q rest (a.put o.dst (goInt n)) w') : wpList P ops Q (o :: rest) a w := by
  obtain ⟨cs, hB⟩ := hB
  have hfit : n = 0 ∨ off + n ≤ cs.length := by
    rcases Nat.eq_zero_or_pos n with e | e
    · exact .inl e
    · have := hy (n - 1) (by omega)
      rw [hB.cell] at this
      have := (List.getElem?_eq_some_iff.1 this).1
      omega
  rcases Nat.eq_zero_or_pos n with e | e
  · subst e
    refine wpList_copy_nothing hgd d s dT sT ho elem hu hsz _ _ _ _ _ _ hd hs (by simp) ?_
    exact h w (Wrt.refl ⟨cs, hB⟩ (fun j hj => by rw [if_neg (by omega)]; exact hy j hj))
  · have hfit2 : off + n ≤ cs.length := by omega
    have hlen : (rm n (fun j => bcell (x j).v)).length = n := rm_length _ _
    refine wpList_copy_own hgd d s dT sT ho elem hu hsz G off k dc ⟨b, ob, none⟩ n sc hd hs cs.toArray 5 hB (rm n fun j => bcell (x j).v) (by rw [hlen]; exact (Nat.min_eq_left hnk).symm) (fun j v hv => ?_) (by rw [hlen]; simpa using hfit2) (fun v hv => ?_) ?_
    · have hj : j < n := by have := (List.getElem?_eq_some_iff.1 hv).1; rw [hlen] at this; exact this
      rw [rm_get hj] at hv
      obtain rfl := Option.some.inj hv
      rw [Addr.add_mid]
      exact hx j hj
    · unfold rm at hv
      simp only [List.mem_map] at hv
      obtain ⟨j, _, rfl⟩ := hv
      rfl
    · rw [hlen]
      have hB' : Blk (w.setRow G (cs.toArray.toList.take off ++ (rm n (fun j => bcell (x j).v) ++ cs.toArray.toList.drop (off + n))).toArray) G 5 (splice cs off (rm n fun j => bcell (x j).v)) := by
        unfold splice
        rw [hlen]
        exact setRow_heap w G _ _ _ _ hB
      refine h _ ⟨⟨_, hB'⟩, fun j hj => ?_, fun q hq => ?_, ⟨rfl, rfl, rfl, by simp, fun i _ hi => setRow_other w G i _ (by simpa using hi)⟩⟩
      · rw [hB'.cell, splice_get _ _ _ (by rw [hlen]; exact hfit2), if_neg (by omega), hlen]
        by_cases hjn : j < n
        · rw [if_pos (by omega), Nat.add_sub_cancel_left, rm_get hjn]
          show _ = some (bcell (if j < n then x j else y j).v)
          rw [if_pos hjn]
        · rw [if_neg (by omega), ← hB.cell]
          show _ = some (bcell (if j < n then x j else y j).v)
          rw [if_neg hjn]; exact hy j hj
      · rw [hB'.cell, splice_get _ _ _ (by rw [hlen]; exact hfit2), hlen, hB.cell]
        by_cases h1 : q < off
        · rw [if_pos h1]
        · rw [if_neg h1, if_neg]
          intro h2
          exact hq (q - off) (by omega) (by omega)
end Go.Proofs.Ytmfbgogfefgglaa
