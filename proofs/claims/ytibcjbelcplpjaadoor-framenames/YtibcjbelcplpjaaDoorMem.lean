/-
  Helper words on memory for this seat's walks: which old blocks a call may have turned ('Kept'), a byte slice that reads as a list ('RdB'), a byte row of the call's own ('OwB'). No statement of the seed is proved here.
-/
import Derived.WalkKit
import Derived.ProofKit
import Derived.Below
import Derived.Lib.Hide
import Derived.Maps.AppendAt
import Derived.Laws.OwnMore
import Derived.Laws.Rows
import Derived.Deep.Draws
import Derived.OwnWalk
import Derived.WalkLawsBesides
namespace Go.Proofs.YtibcjbelcplpjaaDoor
open Go.RowKit

/-! ### which old blocks have turned -/
/-- All old blocks but those listed are as they were; the streams are; no block has gone. -/
structure Kept (S : List Nat) (w w' : World) : Prop where
  os : w'.os = w.os
  tape : w'.tape = w.tape
  output : w'.output = w.output
  size : w.heap.size ≤ w'.heap.size
  block : ∀ k, k < w.heap.size → k ∉ S → w'.heap[k]? = w.heap[k]?

section
variable {S T : List Nat} {a b c w w' : World}
theorem Kept.refl (S : List Nat) (w : World) : Kept S w w := ⟨rfl, rfl, rfl, Nat.le_refl _, fun _ _ _ => rfl⟩
theorem Kept.trans (h : Kept S a b) (k : Kept T b c) (hT : ∀ i, i ∈ T → i ∈ S ∨ a.heap.size ≤ i) : Kept S a c :=
  ⟨k.os.trans h.os, k.tape.trans h.tape, k.output.trans h.output, Nat.le_trans h.size k.size, fun i hi hn =>
    (k.block i (Nat.lt_of_lt_of_le hi h.size) (fun hm => by
      rcases hT i hm with g | g
      · exact hn g
      · omega)).trans (h.block i hi hn)⟩
theorem Kept.andThen (h : Kept S a b) (k : Kept [] b c) : Kept S a c := h.trans k (by simp)
theorem Kept.mono (h : Kept S a b) (hS : ∀ i, i ∈ S → i ∈ T ∨ a.heap.size ≤ i) : Kept T a b :=
  ⟨h.os, h.tape, h.output, h.size, fun i hi hn => h.block i hi (fun hm => by
    rcases hS i hm with g | g
    · exact hn g
    · omega)⟩
theorem Kept.drew (h : Kept S a b) : Kept S a b.drew := ⟨h.os, h.tape, h.output, h.size, h.block⟩
theorem Kept.drewN (h : Kept S a b) (n : Nat) : Kept S a (b.drewN n) := ⟨h.os, h.tape, h.output, h.size, h.block⟩
theorem Kept.alloc (h : Kept S a b) (o : Obj) : Kept S a (b.alloc o) :=
  h.trans (T := []) ⟨rfl, rfl, rfl, by simp, fun k hk _ => Below.heap_alloc _ _ _ hk⟩ (by simp)
theorem Kept.setCell (h : Kept S a b) {p : Addr} (hp : p.block ∈ S ∨ a.heap.size ≤ p.block) (u : Value) : Kept S a (b.setCell p u) :=
  h.trans (T := [p.block]) ⟨rfl, rfl, rfl, by simp [World.setCell], fun k _ hk => Below.heap_setCell _ _ _ _ (by simpa using hk)⟩ (by simpa using hp)
theorem Kept.grown (h : Kept S a b) {row : Option Nat} (hg : b.grownBy c row) (hr : ∀ k, row = some k → k ∈ S ∨ a.heap.size ≤ k) : Kept S a c :=
  h.trans (T := row.toList) ⟨hg.os, hg.tape, hg.output, hg.size, fun k hk hn => hg.block k hk (fun e => hn (by simp [← e]))⟩ (by
    intro i hi
    exact hr i (by simpa using hi))
theorem Kept.of_below (h : Below w.heap.size w w') : Kept [] w w' := ⟨h.os, h.tape, h.output, h.size, fun k hk _ => h.block k hk⟩
theorem Kept.of_below' (S : List Nat) (h : Below w.heap.size w w') : Kept S w w' := ⟨h.os, h.tape, h.output, h.size, fun k hk _ => h.block k hk⟩
theorem Kept.below (h : Kept S w w') {B : Nat} (hB : B ≤ w.heap.size) (hS : ∀ k, k ∈ S → B ≤ k) : Below B w w' :=
  ⟨h.os, h.tape, h.output, h.size, fun k hk => h.block k (by omega) (fun hm => by have := hS k hm; omega)⟩
theorem Kept.below0 (h : Kept [] w w') : Below w.heap.size w w' := h.below (Nat.le_refl _) (by simp)
theorem Kept.cell (h : Kept S w w') {p : Addr} (hp : p.block < w.heap.size) (hn : p.block ∉ S) : w'.cell? p = w.cell? p := World.cell?_of_block (w := w) (h.block p.block hp hn)
theorem Kept.frozen (h : Kept S w w') {p : Addr} (hp : p.block < w.heap.size) (hn : p.block ∉ S) : w'.frozen? p = w.frozen? p := World.frozen?_of_block (w := w) (h.block p.block hp hn)
theorem Kept.lt (h : Kept S w w') {k : Nat} (hk : k < w.heap.size) : k < w'.heap.size := Nat.lt_of_lt_of_le hk h.size
end

/-! ### bytes -/
/-- A byte's cell. -/
def bcell (b : UInt8) : Value := .int .u8 (b.toNat : Int)
/-- A text's cells. -/
def bvs (bs : List UInt8) : List Value := bs.map bcell
theorem bvs_length (bs : List UInt8) : (bvs bs).length = bs.length := by simp [bvs]
theorem bvs_append (a b : List UInt8) : bvs (a ++ b) = bvs a ++ bvs b := by simp [bvs]
theorem bvs_one (bs : List UInt8) : ∀ u ∈ bvs bs, u.oneCell' = true := by
  intro u hu
  simp only [bvs, List.mem_map] at hu
  obtain ⟨b, _, rfl⟩ := hu
  rfl
theorem bvs_get (bs : List UInt8) (j : Nat) (h : j < bs.length) : (bvs bs)[j]? = some (bcell bs[j]) := by simp [bvs, h]
theorem bvs_inj : ∀ (a b : List UInt8), bvs a = bvs b → a = b
  | [], [], _ => rfl
  | [], y :: ys, h => by simp [bvs] at h
  | x :: xs, [], h => by simp [bvs] at h
  | x :: xs, y :: ys, h => by
    simp only [bvs, List.map_cons, List.cons.injEq, bcell, Value.int.injEq, true_and, Int.natCast_inj] at h
    rw [UInt8.toNat_inj.1 h.1, bvs_inj xs ys (by simpa [bvs, bcell] using h.2)]

/-- The block that a slice's address lies in is none of these. -/
def Off (A : Option Addr) (S : List Nat) : Prop := ∀ a : Addr, A = some a → a.block ∉ S

/-- The slice '.slice A n c' reads as the bytes bs. -/
structure RdB (w : World) (A : Option Addr) (n c : Nat) (bs : List UInt8) : Prop where
  len : bs.length = n
  cap : n ≤ c
  most : c ≤ maxLen
  cells : 0 < n → ∃ b off, A = some ⟨b, off, none⟩ ∧ ∀ j, (h : j < bs.length) → w.cell? ⟨b, off + j, none⟩ = some (bcell bs[j])

section
variable {w w' : World} {A : Option Addr} {n c : Nat} {bs : List UInt8} {S : List Nat}
theorem RdB.nil (w : World) : RdB w none 0 0 [] := ⟨rfl, Nat.le_refl _, by simp [maxLen], fun h => absurd h (by omega)⟩
theorem RdB.empty (w : World) (A : Option Addr) (c : Nat) (hc : c ≤ maxLen) : RdB w A 0 c [] := ⟨rfl, Nat.zero_le _, hc, fun h => absurd h (by omega)⟩
theorem RdB.at_ (h : RdB w A n c bs) (hn : 0 < n) : ∃ b off, A = some ⟨b, off, none⟩ ∧ b < w.heap.size ∧ ∀ j, (hj : j < bs.length) → w.cell? ⟨b, off + j, none⟩ = some (bcell bs[j]) := by
  obtain ⟨b, off, e, hc⟩ := h.cells hn
  have hl := h.len
  have h0 := hc 0 (by omega)
  exact ⟨b, off, e, World.block_lt_of_cell? w _ h0, hc⟩
/-- One byte of it. -/
theorem RdB.byte (h : RdB w A n c bs) {k : Nat} (hk : k < n) : ∃ (b off : Nat) (y : UInt8), A = some ⟨b, off, none⟩ ∧ w.cell? ⟨b, off + k, none⟩ = some (.int .u8 (y.toNat : Int)) ∧ bs[k]? = some y ∧ y.toNat < 256 := by
  obtain ⟨b, off, e, hc⟩ := h.cells (by omega)
  have hl := h.len
  exact ⟨b, off, bs[k]'(by omega), e, hc k (by omega), List.getElem?_eq_getElem (by omega), UInt8.toNat_lt _⟩
theorem RdB.keep (h : RdB w A n c bs) (hk : ∀ b off, A = some ⟨b, off, none⟩ → b < w.heap.size → w'.heap[b]? = w.heap[b]?) : RdB w' A n c bs :=
  ⟨h.len, h.cap, h.most, fun hn => by
    obtain ⟨b, off, e, hb, hc⟩ := h.at_ hn
    exact ⟨b, off, e, fun j hj => (World.cell?_of_block (w := w) (hk b off e hb)).trans (hc j hj)⟩⟩
theorem RdB.kept (h : RdB w A n c bs) (hk : Kept S w w') (hS : Off A S) : RdB w' A n c bs :=
  h.keep fun b _ e hb => hk.block b hb (hS _ e)
theorem RdB.keptIf (h : RdB w A n c bs) (hk : Kept S w w') (hS : 0 < n → Off A S) : RdB w' A n c bs := by
  rcases Nat.eq_zero_or_pos n with h0 | h0
  · exact ⟨h.len, h.cap, h.most, fun hp => absurd hp (by omega)⟩
  · exact h.kept hk (hS h0)
theorem RdB.kept0 (h : RdB w A n c bs) (hk : Kept [] w w') : RdB w' A n c bs := h.kept hk (fun _ _ => by simp)
theorem RdB.alloc (h : RdB w A n c bs) (o : Obj) : RdB (w.alloc o) A n c bs := h.kept0 ((Kept.refl [] w).alloc o)
theorem RdB.drew (h : RdB w A n c bs) : RdB w.drew A n c bs := ⟨h.len, h.cap, h.most, h.cells⟩
theorem RdB.drewN (h : RdB w A n c bs) (k : Nat) : RdB (w.drewN k) A n c bs := ⟨h.len, h.cap, h.most, h.cells⟩
theorem RdB.one (w : World) (e : TypeId) (z : Int) (b : UInt8) (hz : z = (b.toNat : Int)) : RdB (w.alloc (.cells #[.int .u8 z] e)) (some ⟨w.heap.size, 0, none⟩) 1 1 [b] := by
  subst hz
  refine ⟨rfl, Nat.le_refl _, by simp [maxLen], fun _ => ⟨w.heap.size, 0, rfl, fun j hj => ?_⟩⟩
  have hj0 : j = 0 := by simpa using hj
  subst hj0
  rw [cell_of_row _ _ _ _ _ _ (heap_alloc_new w _)]
  rfl
theorem RdB.lit (w : World) (e : TypeId) (cs : Array Value) (n : Nat) (bs : List UInt8) (h : cs = (bvs bs).toArray) (hn : bs.length = n) (hm : n ≤ maxLen) : RdB (w.alloc (.cells cs e)) (some ⟨w.heap.size, 0, none⟩) n n bs := by
  subst h
  refine ⟨hn, Nat.le_refl _, hm, fun _ => ⟨w.heap.size, 0, rfl, fun j hj => ?_⟩⟩
  rw [cell_of_row _ _ _ _ _ _ (heap_alloc_new w _), Nat.zero_add]
  have := bvs_get bs j hj
  simpa using this
/-- As the library's append asks for it. -/
theorem RdB.news {a : Addr} (h : RdB w (some a) n c bs) : ∀ j u, (bvs bs)[j]? = some u → w.cell? (a.add j) = some u := by
  intro j u hu
  rcases Nat.lt_or_ge j bs.length with hj | hj
  · have hl := h.len
    obtain ⟨b, off, e, _, hc⟩ := h.at_ (by omega)
    injection e with e
    subst e
    rw [bvs_get bs j hj] at hu
    have := hc j hj
    simp only [Addr.add]
    split
    · rename_i h0
      subst h0
      rw [← hu]
      exact this
    · rw [← hu]
      exact this
  · rw [List.getElem?_eq_none (by rw [bvs_length]; exact hj)] at hu
    cases hu
end

/-- A byte slice value that owns its row, which begins at a block's head: one that can be appended to. 'F': the row's block, if any. -/
def OwB (e : TypeId) (w : World) (v : Value) (bs : List UInt8) : Prop := w.ownsRow 0 e 1 v bs.length (bvs bs)
section
variable {e : TypeId} {w w' : World} {v : Value} {bs : List UInt8} {S : List Nat}
theorem OwB.nil (e : TypeId) (w : World) : OwB e w (.slice none 0 0) [] := World.ownsRow_nil _ _ _ _
theorem OwB.form (h : OwB e w v bs) : ∃ A n c, v = .slice A n c ∧ RdB w A n c bs ∧ (∀ g, v.ownBlock = some g → g < w.heap.size) := by
  rcases h.2 with ⟨rfl, hn⟩ | ⟨g, cap, cur, rfl, _, hg, hnc, hcm, hcs, htake⟩
  · have : bs = [] := List.eq_nil_of_length_eq_zero hn
    subst this
    exact ⟨none, 0, 0, rfl, RdB.nil w, by simp [Value.ownBlock]⟩
  · have hlt : g < w.heap.size := (Array.getElem?_eq_some_iff.1 hg).1
    refine ⟨some ⟨g, 0, none⟩, _, cap, rfl, ⟨rfl, hnc, hcm, fun _ => ⟨g, 0, rfl, fun j hj => ?_⟩⟩, by simp [Value.ownBlock]; omega⟩
    rw [Nat.zero_add]
    rw [cell_of_row w g j cur e (0, 0) hg]
    have := congrArg (fun l : List Value => l[j]?) htake
    simp only [List.getElem?_take] at this
    rw [if_pos (by omega), bvs_get bs j hj] at this
    simpa using this
theorem OwB.keep (h : OwB e w v bs) (hk : ∀ g, v.ownBlock = some g → g < w.heap.size → w'.heap[g]? = w.heap[g]?) : OwB e w' v bs := by
  refine ⟨h.1, ?_⟩
  rcases h.2 with hn | ⟨g, cap, cur, rfl, hb, hg, rest⟩
  · exact .inl hn
  · exact .inr ⟨g, cap, cur, rfl, hb, (hk g rfl (Array.getElem?_eq_some_iff.1 hg).1).trans hg, rest⟩
theorem OwB.kept (h : OwB e w v bs) (hk : Kept S w w') (hS : ∀ g, v.ownBlock = some g → g ∉ S) : OwB e w' v bs := h.keep fun g hg hl => hk.block g hl (hS g hg)
theorem OwB.kept0 (h : OwB e w v bs) (hk : Kept [] w w') : OwB e w' v bs := h.kept hk (fun _ _ => by simp)
theorem OwB.alloc (h : OwB e w v bs) (o : Obj) : OwB e (w.alloc o) v bs := h.kept0 ((Kept.refl [] w).alloc o)
end

/-- Behind an append the row lies where it lay, or in a new block. -/
def Moved (w : World) (v v' : Value) : Prop := ∀ g, v'.ownBlock = some g → v.ownBlock = some g ∨ w.heap.size ≤ g
theorem Moved.refl (w : World) (v : Value) : Moved w v v := fun _ h => .inl h

section
variable {P : Program} {w : World}
/-- append(row, text...), whatever the text is (nil, empty, or not). -/
theorem run_append_bytes (t ty e : TypeId) (i : TypeInfo) (z : Value) (bytes : Nat) (ht : P.underlying t = some (.slice e)) (hi : P.info? e = some i) (hz : i.zero = some z)
    (hsize : i.size = 1) (hby : i.bytes = bytes) (hzs : z.cells.size = 1) {v : Value} {xs : List UInt8} (hown : OwB e w v xs)
    {A : Option Addr} {m c : Nat} {news : List UInt8} (hr : RdB w A m c news) (h63 : xs.length + m ≤ maxLen) (hbytes : (xs.length + m) * bytes ≤ 140737488355328) :
    ∃ v' w', (Builtin.append_ #[t, t] ty #[v, .slice A m c]).run P w = .ok v' w' ∧ OwB e w' v' (xs ++ news) ∧ Kept v.ownBlock.toList w w' ∧ Moved w v v' := by
  rcases A with _ | a
  · have hm : m = 0 := by
      rcases Nat.eq_zero_or_pos m with h0 | h0
      · exact h0
      · obtain ⟨b, off, e, _⟩ := hr.cells h0
        cases e
    subst hm
    have hn : news = [] := List.eq_nil_of_length_eq_zero hr.len
    subst hn
    refine ⟨v, w, ?_, by simpa using hown, Kept.refl _ _, Moved.refl _ _⟩
    rcases hown.2 with ⟨rfl, _⟩ | ⟨g, cap, cur, rfl, _, _, hnc, _⟩
    · simp [Builtin.append_, run_underlying ht, sizeOf, typeInfo, hi, Builtin.lenOf, Builtin.firstCells]
    · simp [Builtin.append_, run_underlying ht, sizeOf, typeInfo, hi, Builtin.lenOf, Builtin.firstCells, hnc, storeCells]
  · obtain ⟨v', w', hrun, h2, h3, _, h5⟩ := run_append_own_at (P := P) w 0 t ty e i z 1 bytes ht hi hz hsize hby hzs (by omega) v xs.length (bvs xs) hown a m c (bvs news)
      (by rw [bvs_length, hr.len]; omega) hr.news (bvs_one _) h63 hbytes (Nat.zero_le _)
    refine ⟨v', w', hrun, ?_, (Kept.refl _ _).grown h3 (by intro k hk; simp [hk]), ?_⟩
    · have := hr.len
      unfold OwB
      rw [bvs_append, List.length_append, this]
      exact h2
    · intro g hg
      rcases h5 with h5 | h5
      · exact .inl (by rw [← h5]; exact hg)
      · rw [h5] at hg
        injection hg with hg
        exact .inr (by omega)

theorem wpList_append_bytes {ops : Array Oper} {rest : List Oper} {o : Oper} {a : Act} {Q : Exit → Act → World → Prop} (hgd : o.guard = none) (s x : Operand) (t : TypeId)
    (ho : o.op = .call { callee := .builtin .append, args := #[s, x], argTypes := #[t, t] })
    (e : TypeId) (i : TypeInfo) (z : Value) (bytes : Nat) (ht : P.underlying t = some (.slice e)) (hi : P.info? e = some i) (hz : i.zero = some z)
    (hsize : i.size = 1) (hby : i.bytes = bytes) (hzs : z.cells.size = 1)
    (v : Value) (xs : List UInt8) (hs : a.eval s = v) (hown : OwB e w v xs)
    (A : Option Addr) (m c : Nat) (news : List UInt8) (hx : a.eval x = .slice A m c) (hr : RdB w A m c news)
    (h63 : xs.length + m ≤ maxLen) (hbytes : (xs.length + m) * bytes ≤ 140737488355328)
    (h : ∀ v' w', OwB e w' v' (xs ++ news) → Kept v.ownBlock.toList w w' → Moved w v v' → wpList P ops Q rest (a.put o.dst v') w') : wpList P ops Q (o :: rest) a w := by
  refine wpList_plain hgd fun K hK => ?_
  obtain ⟨v', w', hrun, h2, h3, h4⟩ := run_append_bytes (P := P) (w := w) t o.type e i z bytes ht hi hz hsize hby hzs hown hr h63 hbytes
  unfold Oper.wp execOp
  simp only [ho, resolve, invoke, builtin, Sem.run_bind, Sem.run_pure, Result.andThen_ok, List.map_toArray, List.map_cons, List.map_nil, hs, hx, hrun]
  exact hK _ _ (h v' w' h2 h3 h4)
end

section
variable {P : Program} {w : World}
theorem bvs_zeros (n : Nat) : bvs (List.replicate n 0) = List.replicate n (.int .u8 0) := by simp [bvs, bcell]
/-- make([]byte, n): n noughts. -/
theorem wpList_make_bytes {ops : Array Oper} {rest : List Oper} {o : Oper} {a : Act} {Q : Exit → Act → World → Prop}
    (hg : o.guard = none) (l c : Operand) (t : TypeId) (hop : o.op = Op.makeSlice t l c) (e : TypeId) (i : TypeInfo) (h1 : P.underlying t = some (.slice e)) (h2 : P.info? e = some i) (h3 : i.zero = some (.int .u8 0)) (h4 : i.size = 1) (h5 : i.bytes = 1)
    (kl kc : IntKind) (L C : Int) (n : Nat) (hl : a.eval l = .int kl L) (hc : a.eval c = .int kc C) (hL : L = (n : Int)) (hC : C = (n : Int)) (b2 : n ≤ 281474976710656)
    (hK : ∀ w', OwB e w' (.slice (some ⟨w.heap.size, 0, none⟩) n n) (List.replicate n 0) → Kept [] w w' → wpList P ops Q rest (a.put o.dst (.slice (some ⟨w.heap.size, 0, none⟩) n n)) w') : wpList P ops Q (o :: rest) a w := by
  refine wpList_make_full w hg l c t hop 0 e i (.int .u8 0) 1 h1 h2 h3 h4 kl kc L C n hl hc hL hC (by rw [h5]; omega) (by simp only [maxLen]; omega) (Nat.zero_le _) fun w' h g => hK w' ?_ ⟨g.os, g.tape, g.output, g.size, fun k hk _ => g.block k hk (by simp)⟩
  have hz : (Value.int .u8 0).cells = #[Value.int .u8 0] := rfl
  rw [hz, toList_madeCells_one, Nat.mul_one] at h
  unfold OwB
  rw [bvs_zeros, List.length_replicate]
  exact h
theorem OwB.set {e : TypeId} {g n c : Nat} {bs : List UInt8} (h : OwB e w (.slice (some ⟨g, 0, none⟩) n c) bs) (j : Nat) (b : UInt8) :
    OwB e (w.setCell ⟨g, j, none⟩ (bcell b)) (.slice (some ⟨g, 0, none⟩) n c) (bs.set j b) := by
  have hn : bs.length = n := by
    obtain ⟨A, m, d, e, hr, _⟩ := h.form
    injection e with e1 e2 e3
    rw [e2]; exact hr.len
  unfold OwB at h ⊢
  rw [hn] at h
  have := (h.stored j (bcell b)).1
  rw [List.length_set, hn]
  have hs : bvs (bs.set j b) = (bvs bs).set j (bcell b) := by simp [bvs, List.map_set]
  rw [hs]
  exact this
theorem OwB.fz {e : TypeId} {g n c : Nat} {bs : List UInt8} (h : OwB e w (.slice (some ⟨g, 0, none⟩) n c) bs) (j : Nat) : w.frozen? ⟨g, j, none⟩ = false := by
  have hn : bs.length = n := by
    obtain ⟨A, m, d, e, hr, _⟩ := h.form
    injection e with e1 e2 e3
    rw [e2]; exact hr.len
  unfold OwB at h
  rw [hn] at h
  exact h.frozenAt j
theorem OwB.rd {e : TypeId} {A : Option Addr} {n c : Nat} {bs : List UInt8} (h : OwB e w (.slice A n c) bs) : RdB w A n c bs := by
  obtain ⟨A', m, d, e, hr, _⟩ := h.form
  injection e with e1 e2 e3
  subst e1 e2 e3
  exact hr
theorem OwB.lt {e : TypeId} {g n c : Nat} {bs : List UInt8} (h : OwB e w (.slice (some ⟨g, 0, none⟩) n c) bs) : g < w.heap.size := by
  obtain ⟨A', m, d, e, hr, hb⟩ := h.form
  exact hb g rfl
end

/-! ### endings -/
theorem ret_int {k : IntKind} {a b : Int} (h : a = b) : Ending.returned (.int k a) = .returned (.int k b) := by rw [h]
theorem ret_bool {a b : Bool} (h : a = b) : Ending.returned (.bool a) = .returned (.bool b) := by rw [h]
end Go.Proofs.YtibcjbelcplpjaaDoor
