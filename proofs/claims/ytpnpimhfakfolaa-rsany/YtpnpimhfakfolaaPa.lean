/-
  Texts of mine, one behind the other, in one file. No statement of the seed is proved here.
-/
import Derived.WalkKit
import Derived.ProofKit
import Derived.Below
import Derived.Lib.Hide
import Derived.Maps.AppendAt
import Derived.Laws.OwnMore
import Derived.Laws.Rows
import Derived.Deep.Draws
import Derived.OwnWalk
import Derived.WalkLawsBesides
import Derived.Deep.MidRow
import Derived.Deep.WholeRow
import Derived.Laws.CopyOwn
import Derived.Great.Walk
import Derived.Laws.BitsAllLaws
import Derived.Deep.RegionLaw
import Derived.OpenShut
import Derived.ShutString
import Derived.ChangeOld
import Derived.Deep.Slices
import Derived.Deep.Fields
import Derived.Laws.IdiomCopy
import Derived.StillTailTactics
import Derived.Test.YtpnpimhfakfolaaChecked
import Derived.Deep.RegionHeld3
import Derived.Outline
import Derived.Deep.QuietTactic
import Derived.BigQuiet
import Derived.Lib.Strings
import Derived.Lib.Small
import Derived.Lib.Walk
import Derived.WalkSpells
/-
  Helper words on memory for this seat's walks: which old blocks a call may have turned ('Kept'), a byte slice that reads as a list ('RdB'), a byte row of the call's own ('OwB'). No statement of the seed is proved here.
-/
namespace Go.Proofs.Ytpnpimhfakfolaa
open Go.RowKit

/-! ### which old blocks have turned -/
/-- All old blocks but those listed are as they were; the streams are; no block has gone. -/
structure Kept (S : List Nat) (w w' : World) : Prop where
  os : w'.os = w.os
  tape : w'.tape = w.tape
  output : w'.output = w.output
  size : w.heap.size ≤ w'.heap.size
  block : ∀ k, k < w.heap.size → k ∉ S → w'.heap[k]? = w.heap[k]?

section
variable {S T : List Nat} {a b c w w' : World}
theorem Kept.refl (S : List Nat) (w : World) : Kept S w w := ⟨rfl, rfl, rfl, Nat.le_refl _, fun _ _ _ => rfl⟩
theorem Kept.trans (h : Kept S a b) (k : Kept T b c) (hT : ∀ i, i ∈ T → i ∈ S ∨ a.heap.size ≤ i) : Kept S a c :=
  ⟨k.os.trans h.os, k.tape.trans h.tape, k.output.trans h.output, Nat.le_trans h.size k.size, fun i hi hn =>
    (k.block i (Nat.lt_of_lt_of_le hi h.size) (fun hm => by
      rcases hT i hm with g | g
      · exact hn g
      · omega)).trans (h.block i hi hn)⟩
theorem Kept.andThen (h : Kept S a b) (k : Kept [] b c) : Kept S a c := h.trans k (by simp)
theorem Kept.mono (h : Kept S a b) (hS : ∀ i, i ∈ S → i ∈ T ∨ a.heap.size ≤ i) : Kept T a b :=
  ⟨h.os, h.tape, h.output, h.size, fun i hi hn => h.block i hi (fun hm => by
    rcases hS i hm with g | g
    · exact hn g
    · omega)⟩
theorem Kept.drew (h : Kept S a b) : Kept S a b.drew := ⟨h.os, h.tape, h.output, h.size, h.block⟩
theorem Kept.drewN (h : Kept S a b) (n : Nat) : Kept S a (b.drewN n) := ⟨h.os, h.tape, h.output, h.size, h.block⟩
theorem Kept.alloc (h : Kept S a b) (o : Obj) : Kept S a (b.alloc o) :=
  h.trans (T := []) ⟨rfl, rfl, rfl, by simp, fun k hk _ => Below.heap_alloc _ _ _ hk⟩ (by simp)
theorem Kept.setCell (h : Kept S a b) {p : Addr} (hp : p.block ∈ S ∨ a.heap.size ≤ p.block) (u : Value) : Kept S a (b.setCell p u) :=
  h.trans (T := [p.block]) ⟨rfl, rfl, rfl, by simp [World.setCell], fun k _ hk => Below.heap_setCell _ _ _ _ (by simpa using hk)⟩ (by simpa using hp)
theorem Kept.grown (h : Kept S a b) {row : Option Nat} (hg : b.grownBy c row) (hr : ∀ k, row = some k → k ∈ S ∨ a.heap.size ≤ k) : Kept S a c :=
  h.trans (T := row.toList) ⟨hg.os, hg.tape, hg.output, hg.size, fun k hk hn => hg.block k hk (fun e => hn (by simp [← e]))⟩ (by
    intro i hi
    exact hr i (by simpa using hi))
theorem Kept.of_below (h : Below w.heap.size w w') : Kept [] w w' := ⟨h.os, h.tape, h.output, h.size, fun k hk _ => h.block k hk⟩
theorem Kept.of_below' (S : List Nat) (h : Below w.heap.size w w') : Kept S w w' := ⟨h.os, h.tape, h.output, h.size, fun k hk _ => h.block k hk⟩
theorem Kept.below (h : Kept S w w') {B : Nat} (hB : B ≤ w.heap.size) (hS : ∀ k, k ∈ S → B ≤ k) : Below B w w' :=
  ⟨h.os, h.tape, h.output, h.size, fun k hk => h.block k (by omega) (fun hm => by have := hS k hm; omega)⟩
theorem Kept.below0 (h : Kept [] w w') : Below w.heap.size w w' := h.below (Nat.le_refl _) (by simp)
theorem Kept.cell (h : Kept S w w') {p : Addr} (hp : p.block < w.heap.size) (hn : p.block ∉ S) : w'.cell? p = w.cell? p := World.cell?_of_block (w := w) (h.block p.block hp hn)
theorem Kept.frozen (h : Kept S w w') {p : Addr} (hp : p.block < w.heap.size) (hn : p.block ∉ S) : w'.frozen? p = w.frozen? p := World.frozen?_of_block (w := w) (h.block p.block hp hn)
theorem Kept.lt (h : Kept S w w') {k : Nat} (hk : k < w.heap.size) : k < w'.heap.size := Nat.lt_of_lt_of_le hk h.size
end

/-! ### bytes -/
/-- A byte's cell. -/
def bcell (b : UInt8) : Value := .int .u8 (b.toNat : Int)
/-- A text's cells. -/
def bvs (bs : List UInt8) : List Value := bs.map bcell
theorem bvs_length (bs : List UInt8) : (bvs bs).length = bs.length := by simp [bvs]
theorem bvs_append (a b : List UInt8) : bvs (a ++ b) = bvs a ++ bvs b := by simp [bvs]
theorem bvs_one (bs : List UInt8) : ∀ u ∈ bvs bs, u.oneCell' = true := by
  intro u hu
  simp only [bvs, List.mem_map] at hu
  obtain ⟨b, _, rfl⟩ := hu
  rfl
theorem bvs_get (bs : List UInt8) (j : Nat) (h : j < bs.length) : (bvs bs)[j]? = some (bcell bs[j]) := by simp [bvs, h]
theorem bvs_inj : ∀ (a b : List UInt8), bvs a = bvs b → a = b
  | [], [], _ => rfl
  | [], y :: ys, h => by simp [bvs] at h
  | x :: xs, [], h => by simp [bvs] at h
  | x :: xs, y :: ys, h => by
    simp only [bvs, List.map_cons, List.cons.injEq, bcell, Value.int.injEq, true_and, Int.natCast_inj] at h
    rw [UInt8.toNat_inj.1 h.1, bvs_inj xs ys (by simpa [bvs, bcell] using h.2)]

/-- The block that a slice's address lies in is none of these. -/
def Off (A : Option Addr) (S : List Nat) : Prop := ∀ a : Addr, A = some a → a.block ∉ S

/-- The slice '.slice A n c' reads as the bytes bs. -/
structure RdB (w : World) (A : Option Addr) (n c : Nat) (bs : List UInt8) : Prop where
  len : bs.length = n
  cap : n ≤ c
  most : c ≤ maxLen
  cells : 0 < n → ∃ b off, A = some ⟨b, off, none⟩ ∧ ∀ j, (h : j < bs.length) → w.cell? ⟨b, off + j, none⟩ = some (bcell bs[j])

section
variable {w w' : World} {A : Option Addr} {n c : Nat} {bs : List UInt8} {S : List Nat}
theorem RdB.nil (w : World) : RdB w none 0 0 [] := ⟨rfl, Nat.le_refl _, by simp [maxLen], fun h => absurd h (by omega)⟩
theorem RdB.empty (w : World) (A : Option Addr) (c : Nat) (hc : c ≤ maxLen) : RdB w A 0 c [] := ⟨rfl, Nat.zero_le _, hc, fun h => absurd h (by omega)⟩
theorem RdB.at_ (h : RdB w A n c bs) (hn : 0 < n) : ∃ b off, A = some ⟨b, off, none⟩ ∧ b < w.heap.size ∧ ∀ j, (hj : j < bs.length) → w.cell? ⟨b, off + j, none⟩ = some (bcell bs[j]) := by
  obtain ⟨b, off, e, hc⟩ := h.cells hn
  have hl := h.len
  have h0 := hc 0 (by omega)
  exact ⟨b, off, e, World.block_lt_of_cell? w _ h0, hc⟩
/-- One byte of it. -/
theorem RdB.byte (h : RdB w A n c bs) {k : Nat} (hk : k < n) : ∃ (b off : Nat) (y : UInt8), A = some ⟨b, off, none⟩ ∧ w.cell? ⟨b, off + k, none⟩ = some (.int .u8 (y.toNat : Int)) ∧ bs[k]? = some y ∧ y.toNat < 256 := by
  obtain ⟨b, off, e, hc⟩ := h.cells (by omega)
  have hl := h.len
  exact ⟨b, off, bs[k]'(by omega), e, hc k (by omega), List.getElem?_eq_getElem (by omega), UInt8.toNat_lt _⟩
theorem RdB.keep (h : RdB w A n c bs) (hk : ∀ b off, A = some ⟨b, off, none⟩ → b < w.heap.size → w'.heap[b]? = w.heap[b]?) : RdB w' A n c bs :=
  ⟨h.len, h.cap, h.most, fun hn => by
    obtain ⟨b, off, e, hb, hc⟩ := h.at_ hn
    exact ⟨b, off, e, fun j hj => (World.cell?_of_block (w := w) (hk b off e hb)).trans (hc j hj)⟩⟩
theorem RdB.kept (h : RdB w A n c bs) (hk : Kept S w w') (hS : Off A S) : RdB w' A n c bs :=
  h.keep fun b _ e hb => hk.block b hb (hS _ e)
theorem RdB.keptIf (h : RdB w A n c bs) (hk : Kept S w w') (hS : 0 < n → Off A S) : RdB w' A n c bs := by
  rcases Nat.eq_zero_or_pos n with h0 | h0
  · exact ⟨h.len, h.cap, h.most, fun hp => absurd hp (by omega)⟩
  · exact h.kept hk (hS h0)
theorem RdB.kept0 (h : RdB w A n c bs) (hk : Kept [] w w') : RdB w' A n c bs := h.kept hk (fun _ _ => by simp)
theorem RdB.alloc (h : RdB w A n c bs) (o : Obj) : RdB (w.alloc o) A n c bs := h.kept0 ((Kept.refl [] w).alloc o)
theorem RdB.drew (h : RdB w A n c bs) : RdB w.drew A n c bs := ⟨h.len, h.cap, h.most, h.cells⟩
theorem RdB.drewN (h : RdB w A n c bs) (k : Nat) : RdB (w.drewN k) A n c bs := ⟨h.len, h.cap, h.most, h.cells⟩
theorem RdB.one (w : World) (e : TypeId) (z : Int) (b : UInt8) (hz : z = (b.toNat : Int)) : RdB (w.alloc (.cells #[.int .u8 z] e)) (some ⟨w.heap.size, 0, none⟩) 1 1 [b] := by
  subst hz
  refine ⟨rfl, Nat.le_refl _, by simp [maxLen], fun _ => ⟨w.heap.size, 0, rfl, fun j hj => ?_⟩⟩
  have hj0 : j = 0 := by simpa using hj
  subst hj0
  rw [cell_of_row _ _ _ _ _ _ (heap_alloc_new w _)]
  rfl
theorem RdB.lit (w : World) (e : TypeId) (cs : Array Value) (n : Nat) (bs : List UInt8) (h : cs = (bvs bs).toArray) (hn : bs.length = n) (hm : n ≤ maxLen) : RdB (w.alloc (.cells cs e)) (some ⟨w.heap.size, 0, none⟩) n n bs := by
  subst h
  refine ⟨hn, Nat.le_refl _, hm, fun _ => ⟨w.heap.size, 0, rfl, fun j hj => ?_⟩⟩
  rw [cell_of_row _ _ _ _ _ _ (heap_alloc_new w _), Nat.zero_add]
  have := bvs_get bs j hj
  simpa using this
/-- As the library's append asks for it. -/
theorem RdB.news {a : Addr} (h : RdB w (some a) n c bs) : ∀ j u, (bvs bs)[j]? = some u → w.cell? (a.add j) = some u := by
  intro j u hu
  rcases Nat.lt_or_ge j bs.length with hj | hj
  · have hl := h.len
    obtain ⟨b, off, e, _, hc⟩ := h.at_ (by omega)
    injection e with e
    subst e
    rw [bvs_get bs j hj] at hu
    have := hc j hj
    simp only [Addr.add]
    split
    · rename_i h0
      subst h0
      rw [← hu]
      exact this
    · rw [← hu]
      exact this
  · rw [List.getElem?_eq_none (by rw [bvs_length]; exact hj)] at hu
    cases hu
end

/-- A byte slice value that owns its row, which begins at a block's head: one that can be appended to. 'F': the row's block, if any. -/
def OwB (e : TypeId) (w : World) (v : Value) (bs : List UInt8) : Prop := w.ownsRow 0 e 1 v bs.length (bvs bs)
section
variable {e : TypeId} {w w' : World} {v : Value} {bs : List UInt8} {S : List Nat}
theorem OwB.nil (e : TypeId) (w : World) : OwB e w (.slice none 0 0) [] := World.ownsRow_nil _ _ _ _
theorem OwB.form (h : OwB e w v bs) : ∃ A n c, v = .slice A n c ∧ RdB w A n c bs ∧ (∀ g, v.ownBlock = some g → g < w.heap.size) := by
  rcases h.2 with ⟨rfl, hn⟩ | ⟨g, cap, cur, rfl, _, hg, hnc, hcm, hcs, htake⟩
  · have : bs = [] := List.eq_nil_of_length_eq_zero hn
    subst this
    exact ⟨none, 0, 0, rfl, RdB.nil w, by simp [Value.ownBlock]⟩
  · have hlt : g < w.heap.size := (Array.getElem?_eq_some_iff.1 hg).1
    refine ⟨some ⟨g, 0, none⟩, _, cap, rfl, ⟨rfl, hnc, hcm, fun _ => ⟨g, 0, rfl, fun j hj => ?_⟩⟩, by simp [Value.ownBlock]; omega⟩
    rw [Nat.zero_add]
    rw [cell_of_row w g j cur e (0, 0) hg]
    have := congrArg (fun l : List Value => l[j]?) htake
    simp only [List.getElem?_take] at this
    rw [if_pos (by omega), bvs_get bs j hj] at this
    simpa using this
theorem OwB.keep (h : OwB e w v bs) (hk : ∀ g, v.ownBlock = some g → g < w.heap.size → w'.heap[g]? = w.heap[g]?) : OwB e w' v bs := by
  refine ⟨h.1, ?_⟩
  rcases h.2 with hn | ⟨g, cap, cur, rfl, hb, hg, rest⟩
  · exact .inl hn
  · exact .inr ⟨g, cap, cur, rfl, hb, (hk g rfl (Array.getElem?_eq_some_iff.1 hg).1).trans hg, rest⟩
theorem OwB.kept (h : OwB e w v bs) (hk : Kept S w w') (hS : ∀ g, v.ownBlock = some g → g ∉ S) : OwB e w' v bs := h.keep fun g hg hl => hk.block g hl (hS g hg)
theorem OwB.kept0 (h : OwB e w v bs) (hk : Kept [] w w') : OwB e w' v bs := h.kept hk (fun _ _ => by simp)
theorem OwB.alloc (h : OwB e w v bs) (o : Obj) : OwB e (w.alloc o) v bs := h.kept0 ((Kept.refl [] w).alloc o)
end

/-- Behind an append the row lies where it lay, or in a new block. -/
def Moved (w : World) (v v' : Value) : Prop := ∀ g, v'.ownBlock = some g → v.ownBlock = some g ∨ w.heap.size ≤ g
theorem Moved.refl (w : World) (v : Value) : Moved w v v := fun _ h => .inl h

section
variable {P : Program} {w : World}
/-- append(row, text...), whatever the text is (nil, empty, or not). -/
theorem run_append_bytes (t ty e : TypeId) (i : TypeInfo) (z : Value) (bytes : Nat) (ht : P.underlying t = some (.slice e)) (hi : P.info? e = some i) (hz : i.zero = some z)
    (hsize : i.size = 1) (hby : i.bytes = bytes) (hzs : z.cells.size = 1) {v : Value} {xs : List UInt8} (hown : OwB e w v xs)
    {A : Option Addr} {m c : Nat} {news : List UInt8} (hr : RdB w A m c news) (h63 : xs.length + m ≤ maxLen) (hbytes : (xs.length + m) * bytes ≤ 140737488355328) :
    ∃ v' w', (Builtin.append_ #[t, t] ty #[v, .slice A m c]).run P w = .ok v' w' ∧ OwB e w' v' (xs ++ news) ∧ Kept v.ownBlock.toList w w' ∧ Moved w v v' := by
  rcases A with _ | a
  · have hm : m = 0 := by
      rcases Nat.eq_zero_or_pos m with h0 | h0
      · exact h0
      · obtain ⟨b, off, e, _⟩ := hr.cells h0
        cases e
    subst hm
    have hn : news = [] := List.eq_nil_of_length_eq_zero hr.len
    subst hn
    refine ⟨v, w, ?_, by simpa using hown, Kept.refl _ _, Moved.refl _ _⟩
    rcases hown.2 with ⟨rfl, _⟩ | ⟨g, cap, cur, rfl, _, _, hnc, _⟩
    · simp [Builtin.append_, run_underlying ht, sizeOf, typeInfo, hi, Builtin.lenOf, Builtin.firstCells]
    · simp [Builtin.append_, run_underlying ht, sizeOf, typeInfo, hi, Builtin.lenOf, Builtin.firstCells, hnc, storeCells]
  · obtain ⟨v', w', hrun, h2, h3, _, h5⟩ := run_append_own_at (P := P) w 0 t ty e i z 1 bytes ht hi hz hsize hby hzs (by omega) v xs.length (bvs xs) hown a m c (bvs news)
      (by rw [bvs_length, hr.len]; omega) hr.news (bvs_one _) h63 hbytes (Nat.zero_le _)
    refine ⟨v', w', hrun, ?_, (Kept.refl _ _).grown h3 (by intro k hk; simp [hk]), ?_⟩
    · have := hr.len
      unfold OwB
      rw [bvs_append, List.length_append, this]
      exact h2
    · intro g hg
      rcases h5 with h5 | h5
      · exact .inl (by rw [← h5]; exact hg)
      · rw [h5] at hg
        injection hg with hg
        exact .inr (by omega)

theorem wpList_append_bytes {ops : Array Oper} {rest : List Oper} {o : Oper} {a : Act} {Q : Exit → Act → World → Prop} (hgd : o.guard = none) (s x : Operand) (t : TypeId)
    (ho : o.op = .call { callee := .builtin .append, args := #[s, x], argTypes := #[t, t] })
    (e : TypeId) (i : TypeInfo) (z : Value) (bytes : Nat) (ht : P.underlying t = some (.slice e)) (hi : P.info? e = some i) (hz : i.zero = some z)
    (hsize : i.size = 1) (hby : i.bytes = bytes) (hzs : z.cells.size = 1)
    (v : Value) (xs : List UInt8) (hs : a.eval s = v) (hown : OwB e w v xs)
    (A : Option Addr) (m c : Nat) (news : List UInt8) (hx : a.eval x = .slice A m c) (hr : RdB w A m c news)
    (h63 : xs.length + m ≤ maxLen) (hbytes : (xs.length + m) * bytes ≤ 140737488355328)
    (h : ∀ v' w', OwB e w' v' (xs ++ news) → Kept v.ownBlock.toList w w' → Moved w v v' → wpList P ops Q rest (a.put o.dst v') w') : wpList P ops Q (o :: rest) a w := by
  refine wpList_plain hgd fun K hK => ?_
  obtain ⟨v', w', hrun, h2, h3, h4⟩ := run_append_bytes (P := P) (w := w) t o.type e i z bytes ht hi hz hsize hby hzs hown hr h63 hbytes
  unfold Oper.wp execOp
  simp only [ho, resolve, invoke, builtin, Sem.run_bind, Sem.run_pure, Result.andThen_ok, List.map_toArray, List.map_cons, List.map_nil, hs, hx, hrun]
  exact hK _ _ (h v' w' h2 h3 h4)
end

section
variable {P : Program} {w : World}
theorem bvs_zeros (n : Nat) : bvs (List.replicate n 0) = List.replicate n (.int .u8 0) := by simp [bvs, bcell]
/-- make([]byte, n): n noughts. -/
theorem wpList_make_bytes {ops : Array Oper} {rest : List Oper} {o : Oper} {a : Act} {Q : Exit → Act → World → Prop}
    (hg : o.guard = none) (l c : Operand) (t : TypeId) (hop : o.op = Op.makeSlice t l c) (e : TypeId) (i : TypeInfo) (h1 : P.underlying t = some (.slice e)) (h2 : P.info? e = some i) (h3 : i.zero = some (.int .u8 0)) (h4 : i.size = 1) (h5 : i.bytes = 1)
    (kl kc : IntKind) (L C : Int) (n : Nat) (hl : a.eval l = .int kl L) (hc : a.eval c = .int kc C) (hL : L = (n : Int)) (hC : C = (n : Int)) (b2 : n ≤ 281474976710656)
    (hK : ∀ w', OwB e w' (.slice (some ⟨w.heap.size, 0, none⟩) n n) (List.replicate n 0) → Kept [] w w' → wpList P ops Q rest (a.put o.dst (.slice (some ⟨w.heap.size, 0, none⟩) n n)) w') : wpList P ops Q (o :: rest) a w := by
  refine wpList_make_full w hg l c t hop 0 e i (.int .u8 0) 1 h1 h2 h3 h4 kl kc L C n hl hc hL hC (by rw [h5]; omega) (by simp only [maxLen]; omega) (Nat.zero_le _) fun w' h g => hK w' ?_ ⟨g.os, g.tape, g.output, g.size, fun k hk _ => g.block k hk (by simp)⟩
  have hz : (Value.int .u8 0).cells = #[Value.int .u8 0] := rfl
  rw [hz, toList_madeCells_one, Nat.mul_one] at h
  unfold OwB
  rw [bvs_zeros, List.length_replicate]
  exact h
theorem OwB.set {e : TypeId} {g n c : Nat} {bs : List UInt8} (h : OwB e w (.slice (some ⟨g, 0, none⟩) n c) bs) (j : Nat) (b : UInt8) :
    OwB e (w.setCell ⟨g, j, none⟩ (bcell b)) (.slice (some ⟨g, 0, none⟩) n c) (bs.set j b) := by
  have hn : bs.length = n := by
    obtain ⟨A, m, d, e, hr, _⟩ := h.form
    injection e with e1 e2 e3
    rw [e2]; exact hr.len
  unfold OwB at h ⊢
  rw [hn] at h
  have := (h.stored j (bcell b)).1
  rw [List.length_set, hn]
  have hs : bvs (bs.set j b) = (bvs bs).set j (bcell b) := by simp [bvs, List.map_set]
  rw [hs]
  exact this
theorem OwB.fz {e : TypeId} {g n c : Nat} {bs : List UInt8} (h : OwB e w (.slice (some ⟨g, 0, none⟩) n c) bs) (j : Nat) : w.frozen? ⟨g, j, none⟩ = false := by
  have hn : bs.length = n := by
    obtain ⟨A, m, d, e, hr, _⟩ := h.form
    injection e with e1 e2 e3
    rw [e2]; exact hr.len
  unfold OwB at h
  rw [hn] at h
  exact h.frozenAt j
theorem OwB.rd {e : TypeId} {A : Option Addr} {n c : Nat} {bs : List UInt8} (h : OwB e w (.slice A n c) bs) : RdB w A n c bs := by
  obtain ⟨A', m, d, e, hr, _⟩ := h.form
  injection e with e1 e2 e3
  subst e1 e2 e3
  exact hr
theorem OwB.lt {e : TypeId} {g n c : Nat} {bs : List UInt8} (h : OwB e w (.slice (some ⟨g, 0, none⟩) n c) bs) : g < w.heap.size := by
  obtain ⟨A', m, d, e, hr, hb⟩ := h.form
  exact hb g rfl
end

/-! ### endings -/
theorem ret_int {k : IntKind} {a b : Int} (h : a = b) : Ending.returned (.int k a) = .returned (.int k b) := by rw [h]
theorem ret_bool {a b : Bool} (h : a = b) : Ending.returned (.bool a) = .returned (.bool b) := by rw [h]
end Go.Proofs.Ytpnpimhfakfolaa
/-
  Helper words on memory, going on: a block whose cells are known as a list ('Blk'): a variable that is an array or a struct, loaded and stored whole, and cell by cell. No statement of the seed is proved here.
-/
namespace Go.Proofs.Ytpnpimhfakfolaa
open Go.RowKit

/-- The block g holds the cells cs, and all may be written. -/
def Blk (w : World) (g : Nat) (t : TypeId) (cs : List Value) : Prop := w.heap[g]? = some (.cells cs.toArray t (0, 0))
section
variable {w w' : World} {g : Nat} {t : TypeId} {cs : List Value} {S : List Nat}
theorem Blk.lt (h : Blk w g t cs) : g < w.heap.size := (Array.getElem?_eq_some_iff.1 h).1
theorem Blk.cell (h : Blk w g t cs) (j : Nat) : w.cell? ⟨g, j, none⟩ = cs[j]? := by rw [cell_of_row w g j _ _ _ h]; simp
theorem Blk.cellD (h : Blk w g t cs) (j : Nat) (hj : j < cs.length) : w.cell? ⟨g, j, none⟩ = some cs[j] := by rw [h.cell, List.getElem?_eq_getElem hj]
theorem Blk.frz (h : Blk w g t cs) (j : Nat) : w.frozen? ⟨g, j, none⟩ = false := frozen_of_row w g j _ _ h
theorem Blk.keep (h : Blk w g t cs) (hk : w'.heap[g]? = w.heap[g]?) : Blk w' g t cs := hk.trans h
theorem Blk.kept (h : Blk w g t cs) (hk : Kept S w w') (hS : g ∉ S) : Blk w' g t cs := h.keep (hk.block g h.lt hS)
theorem Blk.kept0 (h : Blk w g t cs) (hk : Kept [] w w') : Blk w' g t cs := h.kept hk (by simp)
theorem Blk.alloc (h : Blk w g t cs) (o : Obj) : Blk (w.alloc o) g t cs := h.kept0 ((Kept.refl [] w).alloc o)
theorem Blk.drewN (h : Blk w g t cs) (n : Nat) : Blk (w.drewN n) g t cs := h
theorem Blk.drew (h : Blk w g t cs) : Blk w.drew g t cs := h
theorem Blk.new (w : World) (t : TypeId) (cs : List Value) : Blk (w.alloc (.cells cs.toArray t)) w.heap.size t cs := heap_alloc_new w _
theorem Blk.set (h : Blk w g t cs) (j : Nat) (v : Value) : Blk (w.setCell ⟨g, j, none⟩ v) g t (cs.set j v) := by
  unfold Blk
  rw [heap_setCell_same w g j _ _ v h]
  simp
theorem Blk.set_other (h : Blk w g t cs) {b : Nat} (j : Nat) (v : Value) (hb : g ≠ b) : Blk (w.setCell ⟨b, j, none⟩ v) g t cs := h.keep (heap_setCell_other w _ g v hb)
theorem Blk.of_eq (h : Blk w g t cs) {ds : List Value} (e : cs = ds) : Blk w g t ds := e ▸ h
theorem Blk.inj (h : Blk w g t cs) {ds : List Value} {u : TypeId} (k : Blk w g u ds) : cs = ds := by
  unfold Blk at h k
  rw [h] at k
  injection k with k
  injection k with k1
  simpa using k1
/-- A piece of a block that holds bytes, as a byte slice. -/
theorem Blk.rdb (h : Blk w g t cs) (off n c : Nat) (bs : List UInt8) (hb : (cs.drop off).take n = bvs bs) (hl : bs.length = n) (hc : n ≤ c) (hm : c ≤ maxLen) : RdB w (some ⟨g, off, none⟩) n c bs := by
  refine ⟨hl, hc, hm, fun _ => ⟨g, off, rfl, fun j hj => ?_⟩⟩
  rw [h.cell]
  have h1 := congrArg (fun l : List Value => l[j]?) hb
  simp only [List.getElem?_take, List.getElem?_drop] at h1
  rw [if_pos (by omega), bvs_get bs j hj] at h1
  exact h1
end

theorem splice_snoc {α : Type} (L : List α) (off : Nat) (l : List α) (v : α) (h : off + l.length < L.length) : (splice L off l).set (off + l.length) v = splice L off (l ++ [v]) := by
  unfold splice
  have e1 : (L.take off).length = off := by rw [List.length_take]; omega
  rw [List.set_append_right _ _ (by omega), e1, Nat.add_sub_cancel_left, List.set_append_right _ _ (Nat.le_refl _), Nat.sub_self]
  rw [List.append_assoc, List.length_append, List.length_singleton]
  congr 2
  rw [List.drop_eq_getElem_cons (by omega), List.set_cons_zero, List.singleton_append, Nat.add_assoc]
theorem splice_nil {α : Type} (L : List α) (off : Nat) : splice L off [] = L := by simp [splice]

section
variable {P : Program} {w : World}
/-- A new variable of an array's or a struct's type. -/
theorem wpList_alloc_blk {ops : Array Oper} {rest : List Oper} {o : Oper} {a : Act} {Q : Exit → Act → World → Prop} (hg : o.guard = none) (t : TypeId) (ho : o.op = .alloc t) (zs : List Value)
    (hz : (P.info? t).bind (·.zero) = some (.agg zs.toArray))
    (h : ∀ w', Blk w' w.heap.size t zs → Kept [] w w' → w'.heap.size = w.heap.size + 1 → wpList P ops Q rest (a.put o.dst (.pointer (some ⟨w.heap.size, 0, none⟩))) w') : wpList P ops Q (o :: rest) a w := by
  refine wpList_plain hg fun K hK => ?_
  cases hq : P.info? t with
  | none => simp [hq] at hz
  | some i =>
    have hzz : i.zero = some (.agg zs.toArray) := by simpa [hq] using hz
    have hh := h (w.alloc (.cells zs.toArray t)) (Blk.new w t zs) ((Kept.refl [] w).alloc _) (by simp)
    unfold Oper.wp execOp
    simp [ho, Instr.alloc, zeroValue, typeInfo, hq, hzz, newVar, newRow, Value.cells]
    exact hK _ _ hh
/-- All of it stored. -/
theorem wpList_store_blk {ops : Array Oper} {rest : List Oper} {o : Oper} {a : Act} {Q : Exit → Act → World → Prop} (hgd : o.guard = none) (ty : TypeId) (x y : Operand) (ho : o.op = .store ty x y)
    (g : Nat) (cs : List Value) (hx : a.eval x = .pointer (some ⟨g, 0, none⟩)) (hy : a.eval y = .agg cs.toArray)
    (t : TypeId) (old : List Value) (hg : Blk w g t old) (hi : (P.info? ty).map (·.size) = some cs.length)
    (hold : old.length = cs.length) (h1 : ∀ v ∈ cs, v.oneCell' = true)
    (h : ∀ w', Blk w' g t cs → Kept [g] w w' → w'.heap.size = w.heap.size → wpList P ops Q rest (a.put o.dst undef) w') : wpList P ops Q (o :: rest) a w :=
  wpList_store_row hgd ty x y ho g cs.toArray hx hy t old.toArray hg (by simpa using hi) (by simpa using hold) (all_oneCell_toArray h1)
    (h _ (setRow_heap w g _ _ t _ hg) ⟨rfl, rfl, rfl, by simp, fun k _ hk => setRow_other w g k _ (by simpa using hk)⟩ (by simp))
/-- All of it loaded. -/
theorem wpList_load_blk {ops : Array Oper} {rest : List Oper} {o : Oper} {a : Act} {Q : Exit → Act → World → Prop} (hgd : o.guard = none) (ty : TypeId) (x : Operand) (ho : o.op = .load ty x)
    (g : Nat) (hx : a.eval x = .pointer (some ⟨g, 0, none⟩)) (t : TypeId) (cs : List Value) (d : TypeDesc) (hg : Blk w g t cs)
    (hu : P.underlying ty = some d) (hd : d.isRow = true) (hi : (P.info? ty).map (·.size) = some cs.length)
    (h : wpList P ops Q rest (a.put o.dst (.agg cs.toArray)) w) : wpList P ops Q (o :: rest) a w :=
  wpList_load_mid hgd ty x ho g 0 hx cs d (fun j v hv => by rw [Nat.zero_add, hg.cell]; exact hv) hu hd hi h
/-- A piece of it loaded. -/
theorem wpList_load_part {ops : Array Oper} {rest : List Oper} {o : Oper} {a : Act} {Q : Exit → Act → World → Prop} (hgd : o.guard = none) (ty : TypeId) (x : Operand) (ho : o.op = .load ty x)
    (g off : Nat) (hx : a.eval x = .pointer (some ⟨g, off, none⟩)) (t : TypeId) (cs ps : List Value) (d : TypeDesc) (hg : Blk w g t cs) (hp : (cs.drop off).take ps.length = ps)
    (hu : P.underlying ty = some d) (hd : d.isRow = true) (hi : (P.info? ty).map (·.size) = some ps.length)
    (h : wpList P ops Q rest (a.put o.dst (.agg ps.toArray)) w) : wpList P ops Q (o :: rest) a w :=
  wpList_load_mid hgd ty x ho g off hx ps d (fun j v hv => by
    rw [hg.cell]
    have h1 := congrArg (fun l : List Value => l[j]?) hp
    have hj := (List.getElem?_eq_some_iff.1 hv).1
    simp only [List.getElem?_take, List.getElem?_drop] at h1
    rw [if_pos hj] at h1
    rw [h1, hv]) hu hd hi h
/-- A result that lies in a variable. -/
theorem results_blk {fn : Func} {p : Tmp} {ty : TypeId} (h : fn.results = #[.cell p ty]) (tmps : Array Value) (g : Nat) (t : TypeId) (cs : List Value) (d : TypeDesc)
    (hp : tmps.getD p undef = .pointer (some ⟨g, 0, none⟩)) (hg : Blk w g t cs)
    (hu : P.underlying ty = some d) (hd : d.isRow = true) (hi : (P.info? ty).map (·.size) = some cs.length) :
    (results fn tmps).run P w = .ok (.agg cs.toArray) w :=
  results_cell_row h tmps w g t cs.toArray (0, 0) d hp hg hu (by cases d <;> simp_all [TypeDesc.isRow]) (by simpa using hi)
/-- An array that is cut: from a place on; up to a place. -/
theorem run_cut_from (t e : TypeId) (n g off : Nat) (k : IntKind) (l : Nat) (z : Int) (hu : P.underlying t = some (.array n e)) (hs : (P.info? e).map (·.size) = some 1) (hz : z = (l : Int)) (hl : l < n) (W : World) :
    (Instr.sliceAt t (.pointer (some ⟨g, off, none⟩)) (some (.int k z)) none none).run P W = .ok (.slice (some ⟨g, off + l, none⟩) (n - l) (n - l)) W := by
  subst hz
  cases hq : P.info? e with
  | none => simp [hq] at hs
  | some i =>
    have hi : i.size = 1 := by simpa [hq] using hs
    simp only [Instr.sliceAt, Instr.sureAddr, Sem.run_bind, run_underlying hu, Result.andThen_ok, Sem.run_pure]
    simp [Instr.sliceBounds, run_sliceBound, sizeOf, typeInfo, hq, hi, Nat.le_of_lt hl, show n ≠ l by omega, Addr.add_mid]
theorem run_cut_to (t e : TypeId) (n g off : Nat) (k : IntKind) (h : Nat) (z : Int) (hu : P.underlying t = some (.array n e)) (hs : (P.info? e).map (·.size) = some 1) (hz : z = (h : Int)) (hh : h ≤ n) (hn : 0 < n) (W : World) :
    (Instr.sliceAt t (.pointer (some ⟨g, off, none⟩)) none (some (.int k z)) none).run P W = .ok (.slice (some ⟨g, off, none⟩) h n) W := by
  subst hz
  cases hq : P.info? e with
  | none => simp [hq] at hs
  | some i =>
    have hi : i.size = 1 := by simpa [hq] using hs
    simp only [Instr.sliceAt, Instr.sureAddr, Sem.run_bind, run_underlying hu, Result.andThen_ok, Sem.run_pure]
    simp [Instr.sliceBounds, run_sliceBound, sizeOf, typeInfo, hq, hi, hh, show n ≠ 0 by omega, Addr.add_mid]
end
end Go.Proofs.Ytpnpimhfakfolaa
/-
  Plain mathematics of layer 1: bytes of numbers, small numbers. Nothing of the program here.
-/
namespace Go.Proofs.Ytpnpimhfakfolaa

theorem snoc_ind {α : Type} {P : List α → Prop} (h0 : P []) (hs : ∀ l b, P l → P (l ++ [b])) (l : List α) : P l := by
  have h : ∀ r : List α, P r.reverse := by
    intro r
    induction r with
    | nil => exact h0
    | cons b r ih => rw [List.reverse_cons]; exact hs _ _ ih
  have := h l.reverse
  rwa [List.reverse_reverse] at this

/-- The lowest n bytes of x, the highest first. -/
def be : Nat → Nat → List UInt8
  | 0, _ => []
  | n + 1, x => be n (x / 256) ++ [UInt8.ofNat x]
theorem be_length : ∀ n x, (be n x).length = n
  | 0, _ => rfl
  | n + 1, x => by simp [be, be_length n]
/-- The number that bytes tell, the highest first. -/
def num (bs : List UInt8) : Nat := bs.foldl (fun x b => x * 256 + b.toNat) 0
theorem num_snoc (bs : List UInt8) (b : UInt8) : num (bs ++ [b]) = num bs * 256 + b.toNat := by simp [num]
theorem take_step {α : Type} (l : List α) (k : Nat) (y : α) (h : l[k]? = some y) : l.take (k + 1) = l.take k ++ [y] := by
  obtain ⟨hk, e⟩ := List.getElem?_eq_some_iff.1 h
  rw [List.take_succ_eq_append_getElem hk, e]
theorem ofNat_toNat (x : Nat) : (UInt8.ofNat x).toNat = x % 256 := by simp
theorem num_be : ∀ n x, x < 256 ^ n → num (be n x) = x
  | 0, x, h => by simp at h; subst h; rfl
  | n + 1, x, h => by
    rw [be, num_snoc, num_be n (x / 256) (by rw [Nat.pow_succ] at h; omega), ofNat_toNat]
    omega
theorem num_lt (bs : List UInt8) : num bs < 256 ^ bs.length := by
  refine snoc_ind (P := fun bs => num bs < 256 ^ bs.length) (by simp [num]) (fun l b ih => ?_) bs
  · show num (l ++ [b]) < 256 ^ (l ++ [b]).length
    rw [num_snoc, List.length_append, List.length_singleton, Nat.pow_succ]
    have := b.toNat_lt
    omega
theorem be_num (bs : List UInt8) : be bs.length (num bs) = bs := by
  refine snoc_ind (P := fun bs => be bs.length (num bs) = bs) rfl (fun l b ih => ?_) bs
  · show be (l ++ [b]).length (num (l ++ [b])) = l ++ [b]
    rw [List.length_append, List.length_singleton, be, num_snoc]
    have hb := b.toNat_lt
    have e : (num l * 256 + b.toNat) / 256 = num l := by omega
    have e2 : UInt8.ofNat (num l * 256 + b.toNat) = b := by
      apply UInt8.toNat_inj.1
      rw [ofNat_toNat]
      omega
    rw [e, e2, ih]

/-- How many bytes a number below 2^64 needs, at least one. -/
def wid (x : Nat) : Nat :=
  if x < 256 then 1 else if x < 65536 then 2 else if x < 16777216 then 3 else if x < 4294967296 then 4 else if x < 1099511627776 then 5 else if x < 281474976710656 then 6 else if x < 72057594037927936 then 7 else 8
theorem wid_pos (x : Nat) : 1 ≤ wid x ∧ wid x ≤ 8 := by unfold wid; split <;> (try split) <;> (try split) <;> (try split) <;> (try split) <;> (try split) <;> (try split) <;> omega
theorem wid_small (x : Nat) (h : x < 4294967296) : wid x ≤ 4 := by unfold wid; split <;> (try split) <;> (try split) <;> (try split) <;> omega
theorem wid_lt (x : Nat) (h : x < 18446744073709551616) : x < 256 ^ wid x := by
  unfold wid; split <;> (try split) <;> (try split) <;> (try split) <;> (try split) <;> (try split) <;> (try split) <;> simp <;> omega
theorem wid_le (x n : Nat) (h0 : 1 ≤ n) (h8 : n ≤ 8) (hx : x < 18446744073709551616) : wid x ≤ n ↔ x < 256 ^ n := by
  have h : n = 1 ∨ n = 2 ∨ n = 3 ∨ n = 4 ∨ n = 5 ∨ n = 6 ∨ n = 7 ∨ n = 8 := by omega
  unfold wid
  rcases h with rfl | rfl | rfl | rfl | rfl | rfl | rfl | rfl <;> (split <;> (try split) <;> (try split) <;> (try split) <;> (try split) <;> (try split) <;> (try split) <;> simp <;> omega)
theorem wid_div (z : Nat) (h : 255 < z) (h2 : z < 18446744073709551616) : wid (z / 256) + 1 = wid z := by
  have e1 : (z / 256 < 256) = (z < 65536) := by simp; omega
  have e2 : (z / 256 < 65536) = (z < 16777216) := by simp; omega
  have e3 : (z / 256 < 16777216) = (z < 4294967296) := by simp; omega
  have e4 : (z / 256 < 4294967296) = (z < 1099511627776) := by simp; omega
  have e5 : (z / 256 < 1099511627776) = (z < 281474976710656) := by simp; omega
  have e6 : (z / 256 < 281474976710656) = (z < 72057594037927936) := by simp; omega
  unfold wid
  simp only [e1, e2, e3, e4, e5, e6]
  rw [if_neg (by omega : ¬ z < 256)]
  split <;> (try split) <;> (try split) <;> (try split) <;> (try split) <;> (try split) <;> (try split) <;> omega
/-- How many bytes follow a small number's first one. -/
def fol (x : Nat) : Nat := if x ≤ 250 then 0 else wid x
/-- A small number's bytes. -/
def sm (x : Nat) : List UInt8 := if x ≤ 250 then [UInt8.ofNat x] else UInt8.ofNat (250 + wid x) :: be (wid x) x
theorem sm_length (x : Nat) : (sm x).length = 1 + fol x := by unfold sm fol; split <;> simp [be_length] <;> omega

/-- A small number that bytes begin with: the number, how many bytes tell it, the error (then both are 0). -/
def tsm (bs : List UInt8) (most : Nat) : Nat × Nat × Nat :=
  match bs with
  | [] => (0, 0, 1)
  | b :: rest =>
    if b.toNat = 255 then (0, 0, 2)
    else if b.toNat ≤ 250 then (if most < b.toNat then (0, 0, 3) else (b.toNat, 1, 0))
    else if rest.length < b.toNat - 250 then (0, 0, 1)
    else if fol (num (rest.take (b.toNat - 250))) ≠ b.toNat - 250 then (0, 0, 2)
    else if most < num (rest.take (b.toNat - 250)) then (0, 0, 3)
    else (num (rest.take (b.toNat - 250)), 1 + (b.toNat - 250), 0)
/-- A number of n bytes that bytes begin with. -/
def tnum (bs : List UInt8) (n : Int) : Nat × Nat × Nat :=
  if n < 1 ∨ 8 < n then (0, 0, 14) else if bs.length < n.toNat then (0, 0, 1) else (num (bs.take n.toNat), n.toNat, 0)
/-- A text that bytes begin with. -/
def ttext (bs : List UInt8) (most : Int) : List UInt8 × Nat × Nat :=
  if (tsm bs (max most 0).toNat).2.2 ≠ 0 then ([], 0, (tsm bs (max most 0).toNat).2.2)
  else if bs.length - (tsm bs (max most 0).toNat).2.1 < (tsm bs (max most 0).toNat).1 then ([], 0, 1)
  else ((bs.drop (tsm bs (max most 0).toNat).2.1).take (tsm bs (max most 0).toNat).1, (tsm bs (max most 0).toNat).2.1 + (tsm bs (max most 0).toNat).1, 0)
/-- What is told of a small number is below 2^32, and its bytes are there. -/
theorem tsm_le (bs : List UInt8) (most : Nat) : (tsm bs most).1 < 4294967296 ∧ (tsm bs most).2.1 ≤ bs.length ∧ (tsm bs most).2.1 ≤ 5 ∧ (tsm bs most).2.2 ≤ 3 ∧ ((tsm bs most).2.2 ≠ 0 → tsm bs most = (0, 0, (tsm bs most).2.2)) := by
  unfold tsm
  split
  · simp
  · rename_i b rest
    have hb := b.toNat_lt
    split
    · simp
    · split
      · split <;> simp; omega
      · split
        · simp
        · split
          · simp
          · split
            · simp
            · rename_i h1 _ h3 _ _
              have hlen : (rest.take (b.toNat - 250)).length = b.toNat - 250 := by rw [List.length_take]; omega
              have hN := num_lt (rest.take (b.toNat - 250))
              have h2 : (256 : Nat) ^ (rest.take (b.toNat - 250)).length ≤ 256 ^ 4 := Nat.pow_le_pow_right (by omega) (by omega)
              simp
              omega
end Go.Proofs.Ytpnpimhfakfolaa
/-
  Plain mathematics of layer 2: words of 32 bits, a block's words, its rounds, whole blocks, what ends a text. Nothing of the program here.
-/
namespace Go.Proofs.Ytpnpimhfakfolaa

abbrev W32 := BitVec 32
/-- A word as the number that stands for it. -/
@[irreducible] def wv (x : W32) : Int := (x.toNat : Int)
theorem wv_eq (x : W32) : wv x = (x.toNat : Int) := by unfold wv; rfl
theorem wv_nonneg (x : W32) : 0 ≤ wv x := by rw [wv_eq]; omega
theorem wv_lt (x : W32) : wv x < 4294967296 := by rw [wv_eq]; have := x.isLt; omega
theorem wv_inj {x y : W32} (h : wv x = wv y) : x = y := by
  rw [wv_eq, wv_eq] at h
  exact BitVec.eq_of_toNat_eq (by omega)
theorem wv_ofNat (n : Nat) (h : n < 4294967296) : wv (BitVec.ofNat 32 n) = (n : Int) := by
  rw [wv_eq, BitVec.toNat_ofNat]; omega
theorem wv_add (x y : W32) : (wv x + wv y) % 4294967296 = wv (x + y) := by
  rw [wv_eq, wv_eq, wv_eq, BitVec.toNat_add]; omega

def rotr (x : W32) (n : Nat) : W32 := (x >>> n) ||| (x <<< (32 - n))
def bS0 (x : W32) : W32 := rotr x 2 ^^^ rotr x 13 ^^^ rotr x 22
def bS1 (x : W32) : W32 := rotr x 6 ^^^ rotr x 11 ^^^ rotr x 25
def sS0 (x : W32) : W32 := rotr x 7 ^^^ rotr x 18 ^^^ (x >>> 3)
def sS1 (x : W32) : W32 := rotr x 17 ^^^ rotr x 19 ^^^ (x >>> 10)
def chW (e f g : W32) : W32 := (e &&& f) ^^^ (~~~e &&& g)
def majW (a b c : W32) : W32 := (a &&& b) ^^^ (a &&& c) ^^^ (b &&& c)

/-- The same, as the document's own answer says them. -/
theorem chW_or (e f g : W32) : (e &&& f) ||| (~~~e &&& g) = chW e f g := by
  unfold chW
  apply BitVec.eq_of_getLsbD_eq
  intro i hi
  simp only [BitVec.getLsbD_or, BitVec.getLsbD_and, BitVec.getLsbD_xor, BitVec.getLsbD_not, hi, decide_true, Bool.true_and]
  cases e.getLsbD i <;> cases f.getLsbD i <;> cases g.getLsbD i <;> rfl
theorem majW_or (a b c : W32) : (a &&& b) ||| (a &&& c) ||| (b &&& c) = majW a b c := by
  unfold majW
  apply BitVec.eq_of_getLsbD_eq
  intro i hi
  simp only [BitVec.getLsbD_or, BitVec.getLsbD_and, BitVec.getLsbD_xor]
  cases a.getLsbD i <;> cases b.getLsbD i <;> cases c.getLsbD i <;> rfl
theorem rotr_lost (x : W32) (n : Nat) (h1 : 1 ≤ n) (h : n < 32) : rotr x n ^^^ (x <<< (32 - n)) = x >>> n := by
  unfold rotr
  apply BitVec.eq_of_getLsbD_eq
  intro i hi
  simp only [BitVec.getLsbD_xor, BitVec.getLsbD_or, BitVec.getLsbD_ushiftRight, BitVec.getLsbD_shiftLeft, hi, decide_true, Bool.true_and]
  by_cases hk : i < 32 - n
  · simp [hk]
  · have : x.getLsbD (n + i) = false := BitVec.getLsbD_of_ge _ _ (by omega)
    simp [this]
def three (x : W32) (a b c : Nat) : W32 := 0 ^^^ rotr x a ^^^ rotr x b ^^^ rotr x c
theorem zero_xorW (x : W32) : 0 ^^^ x = x := BitVec.zero_xor
theorem three_S0 (x : W32) : three x 2 13 22 = bS0 x := by unfold three bS0; rw [zero_xorW]
theorem three_S1 (x : W32) : three x 6 11 25 = bS1 x := by unfold three bS1; rw [zero_xorW]
theorem two_s0 (x : W32) : three x 7 18 3 ^^^ (x <<< 29) = sS0 x := by
  unfold three sS0; rw [zero_xorW, BitVec.xor_assoc, rotr_lost x 3 (by omega) (by omega)]
theorem two_s1 (x : W32) : three x 17 19 10 ^^^ (x <<< 22) = sS1 x := by
  unfold three sS1; rw [zero_xorW, BitVec.xor_assoc, rotr_lost x 10 (by omega) (by omega)]

/-- The word that four bytes tell, the highest first. -/
def wd (bs : List UInt8) : W32 := BitVec.ofNat 32 (num (bs.take 4))
/-- A block's first words. -/
def first16 (b : List UInt8) : Nat → List W32
  | 0 => []
  | n + 1 => first16 b n ++ [wd (b.drop (4 * n))]
theorem first16_length (b : List UInt8) : ∀ n, (first16 b n).length = n
  | 0 => rfl
  | n + 1 => by simp [first16, first16_length b n]
/-- One word more, of those ahead of it. -/
def nextW (l : List W32) (n : Nat) : W32 := l.getD (n - 16) 0 + sS0 (l.getD (n - 15) 0) + l.getD (n - 7) 0 + sS1 (l.getD (n - 2) 0)
def wordsN (b : List UInt8) : Nat → List W32
  | 0 => first16 b 16
  | n + 1 => wordsN b n ++ [nextW (wordsN b n) (16 + n)]
theorem wordsN_length (b : List UInt8) : ∀ n, (wordsN b n).length = 16 + n
  | 0 => first16_length b 16
  | n + 1 => by simp [wordsN, wordsN_length b n]; omega
/-- A block's sixty-four words. -/
@[irreducible] def words64 (b : List UInt8) : List W32 := wordsN b 48
theorem words64_eq (b : List UInt8) : words64 b = wordsN b 48 := by unfold words64; rfl
theorem words64_length (b : List UInt8) : (words64 b).length = 64 := by rw [words64_eq]; exact wordsN_length b 48

/-- Eight words. -/
structure St where
  a : W32
  b : W32
  c : W32
  d : W32
  e : W32
  f : W32
  g : W32
  h : W32
def St.l (s : St) : List W32 := [s.a, s.b, s.c, s.d, s.e, s.f, s.g, s.h]
def ks : List W32 := [0x428a2f98, 0x71374491, 0xb5c0fbcf, 0xe9b5dba5, 0x3956c25b, 0x59f111f1, 0x923f82a4, 0xab1c5ed5, 0xd807aa98, 0x12835b01, 0x243185be, 0x550c7dc3, 0x72be5d74, 0x80deb1fe, 0x9bdc06a7, 0xc19bf174, 0xe49b69c1, 0xefbe4786, 0x0fc19dc6, 0x240ca1cc, 0x2de92c6f, 0x4a7484aa, 0x5cb0a9dc, 0x76f988da, 0x983e5152, 0xa831c66d, 0xb00327c8, 0xbf597fc7, 0xc6e00bf3, 0xd5a79147, 0x06ca6351, 0x14292967, 0x27b70a85, 0x2e1b2138, 0x4d2c6dfc, 0x53380d13, 0x650a7354, 0x766a0abb, 0x81c2c92e, 0x92722c85, 0xa2bfe8a1, 0xa81a664b, 0xc24b8b70, 0xc76c51a3, 0xd192e819, 0xd6990624, 0xf40e3585, 0x106aa070, 0x19a4c116, 0x1e376c08, 0x2748774c, 0x34b0bcb5, 0x391c0cb3, 0x4ed8aa4a, 0x5b9cca4f, 0x682e6ff3, 0x748f82ee, 0x78a5636f, 0x84c87814, 0x8cc70208, 0x90befffa, 0xa4506ceb, 0xbef9a3f7, 0xc67178f2]
def st0 : St := ⟨0x6a09e667, 0xbb67ae85, 0x3c6ef372, 0xa54ff53a, 0x510e527f, 0x9b05688c, 0x1f83d9ab, 0x5be0cd19⟩
theorem ks_length : ks.length = 64 := rfl
/-- One round, by a round's word and a block's. -/
def rndX (k w : W32) (s : St) : W32 := s.h + bS1 s.e + chW s.e s.f s.g + k + w
def rndY (s : St) : W32 := bS0 s.a + majW s.a s.b s.c
def rnd (k w : W32) (s : St) : St := ⟨rndX k w s + rndY s, s.a, s.b, s.c, s.d + rndX k w s, s.e, s.f, s.g⟩
/-- The first n rounds. -/
def rnds (ws : List W32) (s : St) : Nat → St
  | 0 => s
  | n + 1 => rnd (ks.getD n 0) (ws.getD n 0) (rnds ws s n)
def addSt (s t : St) : St := ⟨s.a + t.a, s.b + t.b, s.c + t.c, s.d + t.d, s.e + t.e, s.f + t.f, s.g + t.g, s.h + t.h⟩
/-- Eight words behind a block. -/
@[irreducible] def mixB (s : St) (b : List UInt8) : St := addSt s (rnds (words64 b) s 64)
theorem mixB_eq (s : St) (b : List UInt8) : mixB s b = addSt s (rnds (words64 b) s 64) := by unfold mixB; rfl

/-- Behind n whole blocks. -/
def blocks : Nat → St → List UInt8 → St
  | 0, s, _ => s
  | n + 1, s, l => blocks n (mixB s (l.take 64)) (l.drop 64)
/-- Behind all whole blocks of a text. -/
def run (s : St) (l : List UInt8) : St := blocks (l.length / 64) s l
theorem blocks_take : ∀ (n : Nat) (s : St) (l r : List UInt8), 64 * n ≤ l.length → blocks n s (l ++ r) = blocks n s l
  | 0, _, _, _, _ => rfl
  | n + 1, s, l, r, h => by
    rw [blocks, blocks, List.take_append_of_le_length (by omega), List.drop_append_of_le_length (by omega), blocks_take n _ _ r (by rw [List.length_drop]; omega)]
theorem blocks_snoc : ∀ (n : Nat) (s : St) (l : List UInt8), blocks (n + 1) s l = mixB (blocks n s l) ((l.drop (64 * n)).take 64)
  | 0, s, l => by simp [blocks]
  | n + 1, s, l => by
    rw [blocks, blocks_snoc n, List.drop_drop, blocks]
    rw [show 64 + 64 * n = 64 * (n + 1) by omega]
/-- Fewer bytes than a block needs change nothing. -/
theorem run_more (s : St) (l r : List UInt8) (h : l.length % 64 + r.length < 64) : run s (l ++ r) = run s l := by
  unfold run
  have e : (l ++ r).length / 64 = l.length / 64 := by rw [List.length_append]; omega
  rw [e, blocks_take _ _ _ _ (by omega)]
/-- As many as it needs make one block more. -/
theorem run_full (s : St) (l r : List UInt8) (h : l.length % 64 + r.length = 64) : run s (l ++ r) = mixB (run s l) (l.drop (64 * (l.length / 64)) ++ r) := by
  unfold run
  have e : (l ++ r).length / 64 = l.length / 64 + 1 := by rw [List.length_append]; omega
  rw [e, blocks_snoc, blocks_take _ _ _ _ (by omega)]
  congr 1
  rw [List.drop_append_of_le_length (by omega)]
  exact List.take_of_length_le (by rw [List.length_append, List.length_drop]; omega)

/-- How many bytes stand behind a text of n bytes: the one that ends it, noughts, the length. -/
def fillN (n : Nat) : Nat := 64 - (n + 8) % 64
def tail8 (n : Nat) : List UInt8 := (128 :: List.replicate (fillN n - 1) 0) ++ be 8 (8 * n)
theorem fillN_pos (n : Nat) : 1 ≤ fillN n ∧ fillN n ≤ 64 := by unfold fillN; omega
theorem tail8_length (n : Nat) : (tail8 n).length = fillN n + 8 := by
  have := fillN_pos n
  simp [tail8, be_length]; omega
def padded (l : List UInt8) : List UInt8 := l ++ tail8 l.length
theorem padded_length (l : List UInt8) : (padded l).length % 64 = 0 := by
  have := fillN_pos l.length
  rw [padded, List.length_append, tail8_length]; unfold fillN; omega
/-- Eight words as bytes. -/
def stBytes (s : St) : List UInt8 := s.l.flatMap fun x => be 4 x.toNat
/-- The digest. -/
@[irreducible] def shaSum (l : List UInt8) : List UInt8 := stBytes (run st0 (padded l))
theorem stBytes_length (s : St) : (stBytes s).length = 32 := by simp [stBytes, St.l, be_length]
theorem shaSum_eq (l : List UInt8) : shaSum l = stBytes (run st0 (padded l)) := by unfold shaSum; rfl
theorem shaSum_length (l : List UInt8) : (shaSum l).length = 32 := by rw [shaSum_eq]; exact stBytes_length _
end Go.Proofs.Ytpnpimhfakfolaa
/-
  Helper words on words of 32 bits: the walk's own spellings of their operations, rows of them. No statement of the seed is proved here.
-/
namespace Go.Proofs.Ytpnpimhfakfolaa
open Go.RowKit
set_option linter.unusedVariables false

theorem wv_shr (x : W32) (n : Nat) : wv x / 2 ^ n = wv (x >>> n) := by
  rw [wv_eq, wv_eq, BitVec.toNat_ushiftRight, Nat.shiftRight_eq_div_pow]
  have : ((2 : Int) ^ n) = ((2 ^ n : Nat) : Int) := by simp
  rw [this]
  omega
theorem wv_shl (x : W32) (n : Nat) : wv x * 2 ^ n % 4294967296 = wv (x <<< n) := by
  rw [wv_eq, wv_eq, BitVec.toNat_shiftLeft, Nat.shiftLeft_eq]
  have : ((2 : Int) ^ n) = ((2 ^ n : Nat) : Int) := by simp
  rw [this]
  omega
theorem bits_orW (x y : W32) : bits .or .u32 (wv x) (wv y) = wv (x ||| y) := by
  rw [wv_eq, wv_eq, wv_eq, BitVec.toNat_or]; exact u32_or_nat _ _ (by have := x.isLt; omega) (by have := y.isLt; omega)
theorem bits_andW (x y : W32) : bits .and .u32 (wv x) (wv y) = wv (x &&& y) := by
  rw [wv_eq, wv_eq, wv_eq, BitVec.toNat_and]; exact u32_and_nat _ _ (by have := x.isLt; omega) (by have := y.isLt; omega)
theorem bits_xorW (x y : W32) : bits .xor .u32 (wv x) (wv y) = wv (x ^^^ y) := by
  rw [wv_eq, wv_eq, wv_eq, BitVec.toNat_xor]; exact u32_xor_nat _ _ (by have := x.isLt; omega) (by have := y.isLt; omega)

theorem word4 (a b c d : UInt8) : bits .or .u32 (bits .or .u32 (bits .or .u32 ((a.toNat : Int) * 16777216) ((b.toNat : Int) * 65536)) ((c.toNat : Int) * 256)) (d.toNat : Int) = wv (wd [a, b, c, d]) := by
  have ha := a.toNat_lt
  have hb := b.toNat_lt
  have hc := c.toNat_lt
  have hd := d.toNat_lt
  have e1 : ((a.toNat : Int) * 16777216) = ((a.toNat * 16777216 : Nat) : Int) := by omega
  have e2 : ((b.toNat : Int) * 65536) = ((b.toNat * 65536 : Nat) : Int) := by omega
  have e3 : ((c.toNat : Int) * 256) = ((c.toNat * 256 : Nat) : Int) := by omega
  rw [e1, e2, e3, u32_or_nat _ _ (by omega) (by omega), nat_join 24 _ _ (by omega) (by omega), u32_or_nat _ _ (by omega) (by omega), nat_join 16 _ _ (by omega) (by omega), u32_or_nat _ _ (by omega) (by omega), nat_join 8 _ _ (by omega) (by omega)]
  unfold wd
  rw [wv_ofNat]
  · simp [num]; omega
  · simp [num]; omega

theorem be4 (x : Nat) : be 4 x = [UInt8.ofNat (x / 2 ^ 24), UInt8.ofNat (x / 2 ^ 16), UInt8.ofNat (x / 2 ^ 8), UInt8.ofNat (x / 2 ^ 0)] := by
  simp [be, Nat.div_div_eq_div_mul]
theorem be4_get (x i : Nat) (h : i < 4) : (be 4 x)[i]? = some (UInt8.ofNat (x / 2 ^ (24 - 8 * i))) := by
  rw [be4]
  have : i = 0 ∨ i = 1 ∨ i = 2 ∨ i = 3 := by omega
  rcases this with rfl | rfl | rfl | rfl <;> rfl
theorem byteW (x : W32) (d : Nat) : wv x / 2 ^ d % 256 = ((UInt8.ofNat (x.toNat / 2 ^ d)).toNat : Int) := by
  rw [ofNat_toNat, wv_eq]
  have : ((2 : Int) ^ d) = ((2 ^ d : Nat) : Int) := by simp
  rw [this]
  omega

/-- A call that leaves in block g these cells, and turns nothing else that was there. -/
def SetRet (g : Nat) (t : TypeId) (cs : List Value) (w : World) (e : Ending) (w' : World) : Prop := e = .returned (.tuple #[]) ∧ Blk w' g t cs ∧ Kept [g] w w'

theorem wv_shr3 (x : W32) : wv x / (8 : Int) = wv (x >>> 3) := by
  have := wv_shr x 3
  rwa [show (2 : Int) ^ 3 = 8 by decide] at this
theorem wv_shr10 (x : W32) : wv x / (1024 : Int) = wv (x >>> 10) := by
  have := wv_shr x 10
  rwa [show (2 : Int) ^ 10 = 1024 by decide] at this
/-- A word's cell. -/
def wcell (x : W32) : Value := .int .u32 (wv x)
def wvs (l : List W32) : List Value := l.map wcell
theorem wvs_length (l : List W32) : (wvs l).length = l.length := by simp [wvs]
theorem wvs_append (a b : List W32) : wvs (a ++ b) = wvs a ++ wvs b := by simp [wvs]
theorem wvs_one (l : List W32) : ∀ u ∈ wvs l, u.oneCell' = true := by
  intro u hu
  simp only [wvs, List.mem_map] at hu
  obtain ⟨b, _, rfl⟩ := hu
  rfl
theorem wvs_get (l : List W32) (j : Nat) (h : j < l.length) : (wvs l)[j]? = some (.int .u32 (wv (l.getD j 0))) := by simp [wvs, h, wcell]
theorem notW (x : W32) : bits .xor .u32 IntKind.u32.max (wv x) = wv (~~~x) := by
  have e : IntKind.u32.max = wv (BitVec.allOnes 32) := by rw [wv_eq]; decide
  rw [e, bits_xorW, BitVec.allOnes_xor]
/-- The first n of one list, the rest of another. -/
def mid (A B : List W32) (n : Nat) : List W32 := A.take n ++ B.drop n
theorem mid_length (A B : List W32) (n : Nat) (hA : A.length = B.length) (h : n ≤ B.length) : (mid A B n).length = B.length := by simp [mid]; omega
theorem mid_get (A B : List W32) (n : Nat) (hA : A.length = B.length) (h : n < B.length) : (mid A B n)[n]? = B[n]? := by
  unfold mid
  rw [List.getElem?_append_right (by rw [List.length_take]; omega), List.length_take, List.getElem?_drop]
  congr 1; omega
theorem mid_set (A B : List W32) (n : Nat) (hA : A.length = B.length) (h : n < B.length) : (mid A B n).set n (A.getD n 0) = mid A B (n + 1) := by
  unfold mid
  have e1 : (A.take n).length = n := by rw [List.length_take]; omega
  rw [List.set_append_right _ _ (by omega), e1, Nat.sub_self, List.drop_eq_getElem_cons h, List.set_cons_zero]
  rw [take_step A n (A.getD n 0) (by rw [List.getElem?_eq_getElem (by omega), List.getD_eq_getElem?_getD, List.getElem?_eq_getElem (by omega)]; rfl), List.append_assoc]
  rfl
theorem mid_all (A B : List W32) (hA : A.length = B.length) : mid A B B.length = A := by
  unfold mid; rw [List.drop_of_length_le (Nat.le_refl _), List.append_nil, List.take_of_length_le (by omega)]
def midc (A B : List W32) (n : Nat) (r : List Value) : List Value := wvs (mid A B n) ++ r
theorem midc_get (A B : List W32) (n : Nat) (r : List Value) (hA : A.length = B.length) (h : n < B.length) : (midc A B n r)[n]? = some (.int .u32 (wv (B.getD n 0))) := by
  unfold midc
  have hl := mid_length A B n hA (by omega)
  rw [List.getElem?_append_left (by rw [wvs_length]; omega), wvs_get _ _ (by omega), List.getD_eq_getElem?_getD, mid_get A B n hA h, ← List.getD_eq_getElem?_getD]
theorem midc_set (A B : List W32) (n : Nat) (r : List Value) (hA : A.length = B.length) (h : n < B.length) : (midc A B n r).set n (.int .u32 (wv (A.getD n 0))) = midc A B (n + 1) r := by
  unfold midc
  have hl := mid_length A B n hA (by omega)
  rw [List.set_append_left _ _ (by rw [wvs_length]; omega), ← mid_set A B n hA h]
  simp [wvs, List.map_set, wcell]
theorem run_index_agg {P : Program} (t e : TypeId) (n : Nat) (cs : Array Value) (i : Nat) (v : Value) (W : World) (hu : P.underlying t = some (.array n e)) (hs : (P.info? e).map (·.size) = some 1) (d : TypeDesc) (he : P.underlying e = some d) (hd : d.isRow = false) (hi : i < n) (hv : cs[i]? = some v) :
    (Instr.index t (.agg cs) (.int .i64 (i : Int))).run P W = .ok v W := by
  cases hq : P.info? e with
  | none => simp [hq] at hs
  | some inf =>
    have hsz : inf.size = 1 := by simpa [hq] using hs
    have hagg : (isAgg e).run P W = .ok false W := by
      unfold isAgg
      rw [Sem.run_bind, run_underlying he W]
      cases d <;> simp_all
    simp [Instr.index, asIntOf, run_underlying hu, sizeOf, typeInfo, hq, hsz, part, hagg, hv, hi]
theorem wv_add4 (a b c d : W32) : (wv a + wv b + wv c + wv d) % 4294967296 = wv (a + b + c + d) := by
  rw [← wv_add (a + b + c), ← wv_add (a + b), ← wv_add a]; omega
theorem wv_add3 (a b c : W32) : (wv a + wv b + wv c) % 4294967296 = wv (a + b + c) := by
  rw [← wv_add (a + b), ← wv_add a]; omega
/-- A row of words that comes as a value. -/
def AggRet (l : List W32) (w : World) (e : Ending) (w' : World) : Prop := e = .returned (.agg (wvs l).toArray) ∧ Kept [] w w'
/-- A row of bytes that comes as a value. -/
def KeyRet (l : List UInt8) (w : World) (e : Ending) (w' : World) : Prop := e = .returned (.agg (bvs l).toArray) ∧ Kept [] w w'
/-- Noughts. -/
def zb (n : Nat) : List Value := bvs (List.replicate n 0)
theorem zb_length (n : Nat) : (zb n).length = n := by simp [zb, bvs]
def u8v (x : UInt8) : Int := (x.toNat : Int)
theorem bits_xorB (x y : UInt8) : bits .xor .u8 (x.toNat : Int) (y.toNat : Int) = ((x ^^^ y).toNat : Int) := by
  rw [UInt8.toNat_xor]; exact u8_xor_nat _ _ (by have := x.toNat_lt; omega) (by have := y.toNat_lt; omega)
theorem bits_orB (x y : UInt8) : bits .or .u8 (x.toNat : Int) (y.toNat : Int) = ((x ||| y).toNat : Int) := by
  rw [UInt8.toNat_or]; exact u8_or_nat _ _ (by have := x.toNat_lt; omega) (by have := y.toNat_lt; omega)

section
variable {P : Program}
theorem run_cut_all (t e : TypeId) (n g off : Nat) (hu : P.underlying t = some (.array n e)) (hs : (P.info? e).map (·.size) = some 1) (hn : 0 < n) (W : World) :
    (Instr.sliceAt t (.pointer (some ⟨g, off, none⟩)) none none none).run P W = .ok (.slice (some ⟨g, off, none⟩) n n) W := by
  cases hq : P.info? e with
  | none => simp [hq] at hs
  | some i =>
    have hi : i.size = 1 := by simpa [hq] using hs
    simp only [Instr.sliceAt, Instr.sureAddr, Sem.run_bind, run_underlying hu, Result.andThen_ok, Sem.run_pure]
    simp [Instr.sliceBounds, sizeOf, typeInfo, hq, hi, show n ≠ 0 by omega, Addr.add_mid]
end
theorem Blk.all {w : World} {g : Nat} {t : TypeId} {bs : List UInt8} (h : Blk w g t (bvs bs)) (n : Nat) (hl : bs.length = n) (hm : n ≤ 1000) : RdB w (some ⟨g, 0, none⟩) n n bs :=
  h.rdb 0 n n bs (by rw [List.drop_zero, List.take_of_length_le (by rw [bvs_length]; omega)]) hl (Nat.le_refl _) (by simp only [maxLen]; omega)
theorem size_of_len {P : Program} {ty : TypeId} {n : Nat} (h : (P.info? ty).map (·.size) = some n) {bs : List UInt8} (hl : bs.length = n) : (P.info? ty).map (·.size) = some (bvs bs).length := by rw [bvs_length, hl]; exact h
theorem zb_len {n : Nat} {bs : List UInt8} (hl : bs.length = n) : (zb n).length = (bvs bs).length := by rw [bvs_length, hl]; simp [zb, bvs]

end Go.Proofs.Ytpnpimhfakfolaa
/-
  Plain mathematics: a field in which x + x = 0, sums, matrices as functions of two places, rows that no sum of multiples ties, ranks, Cauchy's matrix. Nothing of the program here.
-/
namespace Go.Proofs.Ytpnpimhfakfolaa
set_option linter.unusedVariables false

class Fld (F : Type) extends Add F, Mul F, Zero F, One F where
  inv : F → F
  add_comm : ∀ x y : F, x + y = y + x
  add_assoc : ∀ x y z : F, x + y + z = x + (y + z)
  add_zero : ∀ x : F, x + 0 = x
  add_self : ∀ x : F, x + x = 0
  mul_comm : ∀ x y : F, x * y = y * x
  mul_assoc : ∀ x y z : F, x * y * z = x * (y * z)
  mul_add : ∀ x y z : F, x * (y + z) = x * y + x * z
  mul_one : ∀ x : F, x * 1 = x
  mul_inv : ∀ x : F, x ≠ 0 → x * inv x = 1
  one_ne : (1 : F) ≠ 0

section
variable {F : Type} [Fld F]
open Fld

theorem f_zero_add (x : F) : 0 + x = x := by rw [add_comm, add_zero]
theorem f_mul_zero (x : F) : x * 0 = 0 := by
  have h := mul_add x 0 0
  rw [add_zero] at h
  have h2 := congrArg (· + x * 0) h
  simp only [add_self, f_zero_add] at h2
  exact h2.symm
theorem f_zero_mul (x : F) : 0 * x = 0 := by rw [mul_comm, f_mul_zero]
theorem f_one_mul (x : F) : 1 * x = x := by rw [mul_comm, mul_one]
theorem f_add_mul (x y z : F) : (x + y) * z = x * z + y * z := by rw [mul_comm, mul_add, mul_comm z x, mul_comm z y]
theorem f_eq_of_add {x y : F} (h : x + y = 0) : x = y := by
  have := congrArg (· + y) h
  simp only [add_assoc, add_self, add_zero, f_zero_add] at this
  exact this
theorem f_add_left_comm (x y z : F) : x + (y + z) = y + (x + z) := by rw [← add_assoc, add_comm x y, add_assoc]
theorem f_mul_left_comm (x y z : F) : x * (y * z) = y * (x * z) := by rw [← mul_assoc, mul_comm x y, mul_assoc]
theorem f_zero_of_mul {x y : F} (h : x * y = 0) (hx : x ≠ 0) : y = 0 := by
  have := congrArg (inv x * ·) h
  simp only [f_mul_zero] at this
  rw [← mul_assoc, mul_comm (inv x) x, mul_inv x hx, f_one_mul] at this
  exact this
theorem f_mul_ne {x y : F} (hx : x ≠ 0) (hy : y ≠ 0) : x * y ≠ 0 := fun h => hy (f_zero_of_mul h hx)
theorem f_inv_ne {x : F} (hx : x ≠ 0) : inv x ≠ 0 := fun h => by
  have := mul_inv x hx
  rw [h, f_mul_zero] at this
  exact one_ne this.symm
theorem f_add_ne {x y : F} (h : x ≠ y) : x + y ≠ 0 := fun e => h (f_eq_of_add e)

/-- The sum of the first n. -/
def fsm : Nat → (Nat → F) → F
  | 0, _ => 0
  | n + 1, f => fsm n f + f n
theorem sm_congr {n : Nat} {f g : Nat → F} (h : ∀ i, i < n → f i = g i) : fsm n f = fsm n g := by
  induction n with
  | zero => rfl
  | succ n ih => unfold fsm; rw [ih (fun i hi => h i (by omega)), h n (by omega)]
theorem sm_zero {n : Nat} {f : Nat → F} (h : ∀ i, i < n → f i = 0) : fsm n f = 0 := by
  induction n with
  | zero => rfl
  | succ n ih => unfold fsm; rw [ih (fun i hi => h i (by omega)), h n (by omega), add_zero]
theorem sm_add (n : Nat) (f g : Nat → F) : fsm n (fun i => f i + g i) = fsm n f + fsm n g := by
  induction n with
  | zero => exact (add_zero 0).symm
  | succ n ih => unfold fsm; rw [ih, add_assoc, add_assoc, f_add_left_comm (fsm n g)]
theorem sm_mul (n : Nat) (c : F) (f : Nat → F) : fsm n (fun i => c * f i) = c * fsm n f := by
  induction n with
  | zero => exact (f_mul_zero c).symm
  | succ n ih => unfold fsm; rw [ih, mul_add]
theorem sm_mul_r (n : Nat) (c : F) (f : Nat → F) : fsm n (fun i => f i * c) = fsm n f * c := by
  rw [mul_comm, ← sm_mul]; exact sm_congr fun i _ => mul_comm _ _
theorem sm_swap (n m : Nat) (f : Nat → Nat → F) : fsm n (fun i => fsm m (fun j => f i j)) = fsm m (fun j => fsm n (fun i => f i j)) := by
  induction n with
  | zero => exact (sm_zero fun _ _ => rfl).symm
  | succ n ih => simp only [fsm]; rw [ih, ← sm_add]
/-- One of them alone. -/
theorem sm_one {n : Nat} {f : Nat → F} {p : Nat} (hp : p < n) (h : ∀ i, i < n → i ≠ p → f i = 0) : fsm n f = f p := by
  induction n with
  | zero => omega
  | succ n ih =>
    unfold fsm
    by_cases e : p = n
    · subst e
      rw [sm_zero (fun i hi => h i (by omega) (by omega)), f_zero_add]
    · rw [ih (by omega) (fun i hi hne => h i (by omega) hne), h n (by omega) (by omega), add_zero]
/-- All but one, and the one. -/
def skip (p i : Nat) : Nat := if i < p then i else i + 1
theorem sm_skip {n : Nat} (f : Nat → F) {p : Nat} (hp : p ≤ n) : fsm (n + 1) f = fsm n (fun i => f (skip p i)) + f p := by
  induction n with
  | zero => obtain rfl : p = 0 := by omega
            rfl
  | succ n ih =>
    by_cases e : p = n + 1
    · subst e
      rw [show fsm (n + 1 + 1) f = fsm (n + 1) f + f (n + 1) from rfl]
      congr 1
      exact sm_congr fun i hi => by unfold skip; rw [if_pos hi]
    · rw [show fsm (n + 1 + 1) f = fsm (n + 1) f + f (n + 1) from rfl, ih (by omega)]
      rw [show fsm (n + 1) (fun i => f (skip p i)) = fsm n (fun i => f (skip p i)) + f (skip p n) from rfl]
      have hs : skip p n = n + 1 := by unfold skip; rw [if_neg (by omega)]
      rw [hs, add_assoc, add_assoc, add_comm (f p)]
theorem skip_ne (p i : Nat) : skip p i ≠ p := by unfold skip; split <;> omega
theorem skip_lt {p i n : Nat} (h : i < n) : skip p i < n + 1 := by unfold skip; split <;> omega

/-- More rows than columns: some of them are tied. -/
theorem homog : ∀ (n m : Nat) (a : Nat → Nat → F), n < m → ∃ c : Nat → F, (∃ i, i < m ∧ c i ≠ 0) ∧ ∀ j, j < n → fsm m (fun i => c i * a i j) = 0
  | 0, m, a, h => ⟨fun i => if i = 0 then 1 else 0, ⟨0, h, by simp; exact one_ne⟩, fun j hj => by omega⟩
  | n + 1, m, a, h => by
    by_cases hz : ∀ i, i < m → a i n = 0
    · obtain ⟨c, hc, h0⟩ := homog n m a (by omega)
      refine ⟨c, hc, fun j hj => ?_⟩
      by_cases e : j = n
      · subst e
        exact sm_zero fun i hi => by rw [hz i hi, f_mul_zero]
      · exact h0 j (by omega)
    · obtain ⟨p, hp, hpn⟩ : ∃ p, p < m ∧ a p n ≠ 0 := by
        apply Classical.byContradiction
        intro hno
        exact hz fun i hi => Classical.byContradiction fun hne => hno ⟨i, hi, hne⟩
      obtain ⟨m', rfl⟩ : ∃ m', m = m' + 1 := ⟨m - 1, by omega⟩
      obtain ⟨c, ⟨i0, hi0, hc0⟩, h0⟩ := homog n m' (fun i j => a (skip p i) j + a (skip p i) n * inv (a p n) * a p j) (by omega)
      let s : F := fsm m' (fun i => c i * (a (skip p i) n * inv (a p n)))
      let d : Nat → F := fun i => if i < p then c i else if i = p then s else c (i - 1)
      have hd1 : ∀ i, d (skip p i) = c i := by
        intro i
        show (if skip p i < p then c (skip p i) else if skip p i = p then s else c (skip p i - 1)) = c i
        unfold skip
        by_cases hi : i < p
        · rw [if_pos hi, if_pos hi]
        · rw [if_neg hi, if_neg (by omega), if_neg (by omega)]; rfl
      have hd2 : d p = s := by
        show (if p < p then c p else if p = p then s else c (p - 1)) = s
        rw [if_neg (by omega), if_pos rfl]
      refine ⟨d, ⟨skip p i0, skip_lt hi0, by rw [hd1]; exact hc0⟩, fun j hj => ?_⟩
      rw [sm_skip _ (by omega : p ≤ m'), hd2]
      have e1 : fsm m' (fun i => d (skip p i) * a (skip p i) j) = fsm m' (fun i => c i * a (skip p i) j) := sm_congr fun i _ => by rw [hd1]
      rw [e1]
      have e2 : s * a p j = fsm m' (fun i => c i * (a (skip p i) n * inv (a p n) * a p j)) := by
        show fsm m' (fun i => c i * (a (skip p i) n * inv (a p n))) * a p j = _
        rw [← sm_mul_r]
        exact sm_congr fun i _ => by simp only [mul_assoc]
      rw [e2, ← sm_add]
      have e3 : fsm m' (fun i => c i * a (skip p i) j + c i * (a (skip p i) n * inv (a p n) * a p j)) = fsm m' (fun i => c i * (a (skip p i) j + a (skip p i) n * inv (a p n) * a p j)) := sm_congr fun i _ => by rw [mul_add]
      rw [e3]
      by_cases e : j = n
      · subst e
        refine sm_zero fun i _ => ?_
        rw [mul_assoc, mul_comm (inv (a p j)), mul_inv _ hpn, mul_one, add_self, f_mul_zero]
      · exact h0 j (by omega)

/-- No sum of multiples of the first m rows, over the first n columns, is nothing, but that of noughts. -/
def Indep (n m : Nat) (a : Nat → Nat → F) : Prop := ∀ c : Nat → F, (∀ j, j < n → fsm m (fun i => c i * a i j) = 0) → ∀ i, i < m → c i = 0
theorem Indep.le {n m : Nat} {a : Nat → Nat → F} (h : Indep n m a) : m ≤ n := by
  apply Classical.byContradiction
  intro hlt
  obtain ⟨c, ⟨i, hi, hc⟩, h0⟩ := homog n m a (by omega)
  exact hc (h c h0 i hi)
/-- Steinitz: rows that aren't tied, out of s others, are no more than s. -/
theorem Indep.span {n r s : Nat} {u v A : Nat → Nat → F} (h : Indep n r u) (hu : ∀ i, i < r → ∀ j, j < n → u i j = fsm s (fun k => A i k * v k j)) : r ≤ s := by
  apply Classical.byContradiction
  intro hlt
  obtain ⟨c, ⟨i, hi, hc⟩, h0⟩ := homog s r A (by omega)
  refine hc (h c (fun j hj => ?_) i hi)
  have e1 : fsm r (fun i => c i * u i j) = fsm r (fun i => fsm s (fun k => c i * A i k * v k j)) := sm_congr fun i hi => by
    rw [hu i hi j hj, ← sm_mul]; exact sm_congr fun k _ => by rw [mul_assoc]
  rw [e1, sm_swap]
  exact sm_zero fun k hk => by rw [sm_mul_r, h0 k hk, f_zero_mul]

/-- r is how many of the m rows are no sums of others. -/
def IsRank (n m : Nat) (a : Nat → Nat → F) (r : Nat) : Prop :=
  ∃ b A B : Nat → Nat → F, Indep n r b ∧ (∀ i, i < r → ∀ j, j < n → b i j = fsm m (fun k => A i k * a k j)) ∧ ∀ i, i < m → ∀ j, j < n → a i j = fsm r (fun k => B i k * b k j)
/-- Out of out of. -/
theorem span_trans {n m s t : Nat} {u v x A B : Nat → Nat → F} (h1 : ∀ i, i < m → ∀ j, j < n → u i j = fsm s (fun k => A i k * v k j)) (h2 : ∀ i, i < s → ∀ j, j < n → v i j = fsm t (fun k => B i k * x k j)) :
    ∀ i, i < m → ∀ j, j < n → u i j = fsm t (fun k => fsm s (fun l => A i l * B l k) * x k j) := by
  intro i hi j hj
  rw [h1 i hi j hj]
  have e1 : fsm s (fun k => A i k * v k j) = fsm s (fun k => fsm t (fun l => A i k * B k l * x l j)) := sm_congr fun k hk => by
    rw [h2 k hk j hj, ← sm_mul]; exact sm_congr fun l _ => by rw [mul_assoc]
  rw [e1, sm_swap]
  exact sm_congr fun k _ => by rw [sm_mul_r]
theorem IsRank.unique {n m r s : Nat} {a : Nat → Nat → F} (h : IsRank n m a r) (k : IsRank n m a s) : r = s := by
  obtain ⟨b, A, B, hi, hA, hB⟩ := h
  obtain ⟨b', A', B', hi', hA', hB'⟩ := k
  have h1 := hi.span (span_trans hA hB')
  have h2 := hi'.span (span_trans hA' hB)
  omega
theorem IsRank.le_rows {n m r : Nat} {a : Nat → Nat → F} (h : IsRank n m a r) : r ≤ m := by
  obtain ⟨b, A, B, hi, hA, hB⟩ := h
  exact hi.span hA
theorem IsRank.le_cols {n m r : Nat} {a : Nat → Nat → F} (h : IsRank n m a r) : r ≤ n := by
  obtain ⟨b, A, B, hi, hA, hB⟩ := h
  exact hi.le
/-- Rows that are made of the others' are no more. -/
theorem IsRank.mono {n m m' r s : Nat} {a a' C : Nat → Nat → F} (h : IsRank n m a r) (k : IsRank n m' a' s) (hC : ∀ i, i < m → ∀ j, j < n → a i j = fsm m' (fun l => C i l * a' l j)) : r ≤ s := by
  obtain ⟨b, A, B, hi, hA, hB⟩ := h
  obtain ⟨b', A', B', hi', hA', hB'⟩ := k
  exact hi.span (span_trans (span_trans hA hC) hB')
/-- Rows that the others are mapped to are no more. -/
theorem IsRank.map {n n' m r s : Nat} {a x : Nat → Nat → F} (h : IsRank n' m (fun i j => fsm n (fun k => a i k * x k j)) r) (k : IsRank n m a s) : r ≤ s := by
  obtain ⟨b, A, B, hi, hA, hB⟩ := h
  obtain ⟨b', A', B', hi', hA', hB'⟩ := k
  have hs : ∀ i, i < m → ∀ j, j < n' → fsm n (fun k => a i k * x k j) = fsm s (fun l => B' i l * fsm n (fun k => b' l k * x k j)) := by
    intro i hi j hj
    have e1 : fsm n (fun k => a i k * x k j) = fsm n (fun k => fsm s (fun l => B' i l * b' l k * x k j)) := sm_congr fun k hk => by
      rw [hB' i hi k hk, ← sm_mul_r]
    rw [e1, sm_swap]
    exact sm_congr fun l _ => by rw [← sm_mul]; exact sm_congr fun k _ => by rw [mul_assoc]
  exact hi.span (span_trans hA hs)
/-- Rows that aren't tied are all of them. -/
theorem Indep.rank {n m : Nat} {a : Nat → Nat → F} (h : Indep n m a) : IsRank n m a m := by
  have hd : ∀ i, i < m → ∀ j, j < n → a i j = fsm m (fun k => (if k = i then (1 : F) else 0) * a k j) := by
    intro i hi j hj
    rw [sm_one hi (fun k _ hk => by rw [if_neg hk, f_zero_mul]), if_pos rfl, f_one_mul]
  exact ⟨a, fun i k => if k = i then 1 else 0, fun i k => if k = i then 1 else 0, h, hd, hd⟩
end
end Go.Proofs.Ytpnpimhfakfolaa
/-
  Plain mathematics, going on: matrices and their inverses, polynomials and their roots, Cauchy's matrix. Nothing of the program here.
-/
namespace Go.Proofs.Ytpnpimhfakfolaa
set_option linter.unusedVariables false
section
variable {F : Type} [Fld F]
open Fld

/-- Rows that are tied are made of one row less. -/
theorem dep_drop {n m : Nat} {a : Nat → Nat → F} (h : ¬ Indep n (m + 1) a) : ∃ v D : Nat → Nat → F, ∀ i, i < m + 1 → ∀ j, j < n → a i j = fsm m (fun k => D i k * v k j) := by
  obtain ⟨c, h0, p, hp, hc⟩ : ∃ c : Nat → F, (∀ j, j < n → fsm (m + 1) (fun i => c i * a i j) = 0) ∧ ∃ p, p < m + 1 ∧ c p ≠ 0 := by
    apply Classical.byContradiction
    intro hno
    refine h fun c hc i hi => Classical.byContradiction fun hne => hno ⟨c, hc, i, hi, hne⟩
  refine ⟨fun k j => a (skip p k) j, fun i k => if i = p then c (skip p k) * inv (c p) else if skip p k = i then 1 else 0, fun i hi j hj => ?_⟩
  by_cases e : i = p
  · subst e
    have h1 := h0 j hj
    rw [sm_skip _ (by omega : i ≤ m)] at h1
    have h2 := f_eq_of_add h1
    have e1 : fsm m (fun k => (if i = i then c (skip i k) * inv (c i) else if skip i k = i then 1 else 0) * a (skip i k) j) = fsm m (fun k => inv (c i) * (c (skip i k) * a (skip i k) j)) := sm_congr fun k _ => by
      rw [if_pos rfl, mul_comm (c (skip i k)), mul_assoc]
    rw [e1, sm_mul, h2, ← mul_assoc, mul_comm (inv (c i)), mul_inv _ hc, f_one_mul]
  · have hk : ∃ k, k < m ∧ skip p k = i := by
      by_cases hlt : i < p
      · exact ⟨i, by omega, by unfold skip; rw [if_pos hlt]⟩
      · exact ⟨i - 1, by omega, by unfold skip; rw [if_neg (by omega)]; omega⟩
    obtain ⟨k, hkm, hks⟩ := hk
    show a i j = fsm m (fun k => (if i = p then c (skip p k) * inv (c p) else if skip p k = i then 1 else 0) * a (skip p k) j)
    rw [sm_one (f := fun k => (if i = p then c (skip p k) * inv (c p) else if skip p k = i then 1 else 0) * a (skip p k) j) hkm (fun l _ hl => by
      show (if i = p then c (skip p l) * inv (c p) else if skip p l = i then 1 else 0) * a (skip p l) j = 0
      rw [if_neg e, if_neg (fun h2 => hl ?_), f_zero_mul]
      unfold skip at hks h2
      split at hks <;> split at h2 <;> omega)]
    show a i j = (if i = p then c (skip p k) * inv (c p) else if skip p k = i then 1 else 0) * a (skip p k) j
    rw [if_neg e, if_pos hks, f_one_mul, hks]
/-- As many as there are: none is tied. -/
theorem IsRank.indep {n m : Nat} {a : Nat → Nat → F} (h : IsRank n m a m) : Indep n m a := by
  apply Classical.byContradiction
  intro hd
  cases m with
  | zero => exact hd (fun c _ i hi => by omega)
  | succ m =>
    obtain ⟨v, D, hv⟩ := dep_drop hd
    obtain ⟨b, A, B, hi, hA, hB⟩ := h
    have := hi.span (span_trans hA hv)
    omega
/-- Rows that make, and are made of, each other are tied both, or neither. -/
theorem Indep.of_made {n m : Nat} {a a' C : Nat → Nat → F} (h : Indep n m a) (hC : ∀ i, i < m → ∀ j, j < n → a i j = fsm m (fun l => C i l * a' l j)) : Indep n m a' := by
  apply Classical.byContradiction
  intro hd
  cases m with
  | zero => exact hd (fun c _ i hi => by omega)
  | succ m =>
    obtain ⟨v, D, hv⟩ := dep_drop hd
    have := h.span (span_trans hC hv)
    omega

/-- The product, n places in the midst. -/
def mm (n : Nat) (a b : Nat → Nat → F) (i j : Nat) : F := fsm n (fun k => a i k * b k j)
def un (i j : Nat) : F := if i = j then 1 else 0
theorem mm_assoc (n m : Nat) (a b c : Nat → Nat → F) (i j : Nat) : mm m (mm n a b) c i j = mm n a (mm m b c) i j := by
  unfold mm
  have e1 : fsm m (fun k => fsm n (fun l => a i l * b l k) * c k j) = fsm m (fun k => fsm n (fun l => a i l * b l k * c k j)) := sm_congr fun k _ => by rw [sm_mul_r]
  rw [e1, sm_swap]
  exact sm_congr fun l _ => by rw [← sm_mul]; exact sm_congr fun k _ => by rw [mul_assoc]
theorem mm_un_left {n : Nat} (a : Nat → Nat → F) {i : Nat} (hi : i < n) (j : Nat) : mm n un a i j = a i j := by
  unfold mm un
  rw [sm_one hi (fun k _ hk => by rw [if_neg (fun e => hk e.symm), f_zero_mul]), if_pos rfl, f_one_mul]
theorem mm_un_right {n : Nat} (a : Nat → Nat → F) (i : Nat) {j : Nat} (hj : j < n) : mm n a un i j = a i j := by
  unfold mm un
  rw [sm_one hj (fun k _ hk => by rw [if_neg hk, f_mul_zero]), if_pos rfl, mul_one]
theorem mm_congr {n : Nat} {a a' b b' : Nat → Nat → F} {i j : Nat} (ha : ∀ k, k < n → a i k = a' i k) (hb : ∀ k, k < n → b k j = b' k j) : mm n a b i j = mm n a' b' i j :=
  sm_congr fun k hk => by rw [ha k hk, hb k hk]
theorem un_indep (n : Nat) : Indep n n (un : Nat → Nat → F) := by
  intro c h i hi
  have := h i hi
  rw [sm_one hi (fun k _ hk => by unfold un; rw [if_neg hk, f_mul_zero])] at this
  unfold un at this
  rw [if_pos rfl, mul_one] at this
  exact this
/-- What has an inverse from the left has no tied rows, .. -/
theorem indep_of_inv {n : Nat} {a m : Nat → Nat → F} (h : ∀ i, i < n → ∀ j, j < n → mm n m a i j = un i j) : Indep n n a :=
  (un_indep n).of_made (C := m) fun i hi j hj => (h i hi j hj).symm
/-- .. and the inverse is one from the right, too. -/
theorem inv_right {n : Nat} {a m : Nat → Nat → F} (h : ∀ i, i < n → ∀ j, j < n → mm n m a i j = un i j) : ∀ i, i < n → ∀ j, j < n → mm n a m i j = un i j := by
  have hi := indep_of_inv h
  intro i hin
  have h1 := hi (fun k => mm n a m i k + un i k) (fun j hj => by
    have e1 : fsm n (fun k => (mm n a m i k + un i k) * a k j) = mm n (mm n a m) a i j + mm n un a i j := by
      unfold mm
      rw [← sm_add]
      exact sm_congr fun k _ => f_add_mul _ _ _
    rw [e1, mm_assoc, mm_un_left a hin, mm_congr (a' := a) (b' := un) (fun _ _ => rfl) (fun k hk => h k hk j hj), mm_un_right a i hj, add_self])
  intro j hj
  exact f_eq_of_add (h1 j hj)
/-- Gauss's step: the first c columns are the unit's, and no row from c on has a number in column c: the rows are tied. -/
theorem no_pivot {n c : Nat} {a : Nat → Nat → F} (hc : c < n) (hu : ∀ i, i < n → ∀ j, j < c → a i j = un i j) (h0 : ∀ i, c ≤ i → i < n → a i c = 0) : ¬ Indep n n a := by
  intro hi
  obtain ⟨d, ⟨i0, hi0, hd⟩, hz⟩ := homog (n - c - 1) (n - c) (fun i j => a (c + i) (c + 1 + j)) (by omega)
  refine hd ?_
  have hs : ∀ j, fsm n (fun i => (if i < c then (0 : F) else d (i - c)) * a i j) = fsm (n - c) (fun i => d i * a (c + i) j) := by
    intro j
    obtain ⟨m, hm⟩ : ∃ m, n = c + m := ⟨n - c, by omega⟩
    have hg : ∀ m, fsm (c + m) (fun i => (if i < c then (0 : F) else d (i - c)) * a i j) = fsm m (fun i => d i * a (c + i) j) := by
      intro m
      induction m with
      | zero => exact sm_zero fun i hi => by rw [if_pos (show i < c from hi), f_zero_mul]
      | succ m ih =>
        rw [show c + (m + 1) = (c + m) + 1 by omega]
        show fsm (c + m) _ + (if c + m < c then (0 : F) else d (c + m - c)) * a (c + m) j = fsm m _ + d m * a (c + m) j
        rw [ih, if_neg (by omega), show c + m - c = m by omega]
    rw [hm, show c + m - c = m by omega]
    exact hg m
  have h1 := hi (fun i => if i < c then 0 else d (i - c)) (fun j hj => by
    rw [hs j]
    by_cases h2 : j < c
    · exact sm_zero fun i hin => by
        rw [hu (c + i) (by omega) j h2]
        unfold un
        rw [if_neg (by omega), f_mul_zero]
    · by_cases h3 : j = c
      · subst h3
        exact sm_zero fun i hin => by rw [h0 (j + i) (by omega) (by omega), f_mul_zero]
      · have := hz (j - c - 1) (by omega)
        rw [show c + 1 + (j - c - 1) = j by omega] at this
        exact this) (c + i0) (by omega)
  rw [if_neg (by omega), show c + i0 - c = i0 by omega] at h1
  exact h1

/-- A polynomial of fewer than d powers. -/
def Deg : Nat → (F → F) → Prop
  | 0, P => ∀ y, P y = 0
  | d + 1, P => ∃ (c : F) (Q : F → F), Deg d Q ∧ ∀ y, P y = c + y * Q y
theorem Deg.congr {P R : F → F} (e : ∀ y, P y = R y) : ∀ {d : Nat}, Deg d P → Deg d R
  | 0, h => fun y => by rw [← e y]; exact h y
  | d + 1, h => by
    obtain ⟨c, Q, hQ, hP⟩ := h
    exact ⟨c, Q, hQ, fun y => by rw [← e y]; exact hP y⟩
theorem Deg.add : ∀ {d : Nat} {P R : F → F}, Deg d P → Deg d R → Deg d (fun y => P y + R y)
  | 0, P, R, h, k => fun y => by show P y + R y = 0; rw [h y, k y, add_zero]
  | d + 1, P, R, h, k => by
    obtain ⟨c, Q, hQ, hP⟩ := h
    obtain ⟨c', Q', hQ', hR⟩ := k
    refine ⟨c + c', fun y => Q y + Q' y, hQ.add hQ', fun y => ?_⟩
    show P y + R y = c + c' + y * (Q y + Q' y)
    rw [hP y, hR y, mul_add, add_assoc, add_assoc, f_add_left_comm (y * Q y)]
theorem Deg.mul (x : F) : ∀ {d : Nat} {P : F → F}, Deg d P → Deg d (fun y => x * P y)
  | 0, P, h => fun y => by show x * P y = 0; rw [h y, f_mul_zero]
  | d + 1, P, h => by
    obtain ⟨c, Q, hQ, hP⟩ := h
    refine ⟨x * c, fun y => x * Q y, hQ.mul x, fun y => ?_⟩
    show x * P y = x * c + y * (x * Q y)
    rw [hP y, mul_add, f_mul_left_comm y]
theorem Deg.zero : ∀ (d : Nat), Deg d (fun _ : F => (0 : F))
  | 0 => fun _ => rfl
  | d + 1 => ⟨0, fun _ => 0, Deg.zero d, fun y => by rw [f_mul_zero, add_zero]⟩
theorem Deg.up : ∀ {d : Nat} {P : F → F}, Deg d P → Deg (d + 1) P
  | 0, P, h => ⟨0, fun _ => 0, Deg.zero 0, fun y => by rw [h y, f_mul_zero, add_zero]⟩
  | d + 1, P, h => by
    obtain ⟨c, Q, hQ, hP⟩ := h
    exact ⟨c, Q, hQ.up, hP⟩
theorem Deg.lin (x : F) {d : Nat} {P : F → F} (h : Deg d P) : Deg (d + 1) (fun y => P y * (x + y)) := by
  have h1 : Deg (d + 1) (fun y => x * P y) := (h.mul x).up
  have h2 : Deg (d + 1) (fun y => y * P y) := ⟨0, P, h, fun y => (f_zero_add _).symm⟩
  exact (h1.add h2).congr fun y => by rw [mul_add, mul_comm (P y) x, mul_comm (P y) y]
theorem Deg.cut (r : F) : ∀ {d : Nat} {P : F → F}, Deg (d + 1) P → ∃ Q, Deg d Q ∧ ∀ y, P y = P r + (y + r) * Q y
  | 0, P, h => by
    obtain ⟨c, Q, hQ, hP⟩ := h
    exact ⟨fun _ => 0, fun _ => rfl, fun y => by rw [hP y, hP r, hQ y, hQ r, f_mul_zero, f_mul_zero, f_mul_zero, add_zero, add_zero]⟩
  | d + 1, P, h => by
    obtain ⟨c, P1, hP1, hP⟩ := h
    obtain ⟨Q1, hQ1, h1⟩ := hP1.cut r
    refine ⟨fun y => P1 r + y * Q1 y, ⟨P1 r, Q1, hQ1, fun _ => rfl⟩, fun y => ?_⟩
    show P y = P r + (y + r) * (P1 r + y * Q1 y)
    rw [hP y, hP r, h1 y, add_assoc]
    congr 1
    simp only [mul_add, f_add_mul]
    rw [f_mul_left_comm y r (Q1 y)]
    have h3 : r * P1 r + (y * P1 r + r * P1 r + (y * (y * Q1 y) + r * (y * Q1 y))) = y * P1 r + (y * (y * Q1 y) + r * (y * Q1 y)) := by
      rw [add_comm (y * P1 r) (r * P1 r), add_assoc, ← add_assoc (r * P1 r), add_self, f_zero_add]
    exact h3.symm
/-- As many roots as powers: it is nothing. -/
theorem Deg.roots : ∀ {d : Nat} {P : F → F} (r : Nat → F), Deg d P → (∀ i, i < d → ∀ k, k < d → i ≠ k → r i ≠ r k) → (∀ i, i < d → P (r i) = 0) → ∀ y, P y = 0
  | 0, P, r, h, _, _ => h
  | d + 1, P, r, h, hne, hr => by
    obtain ⟨Q, hQ, hP⟩ := h.cut (r d)
    have h0 := hr d (by omega)
    have hq := Deg.roots r hQ (fun i hi k hk e => hne i (by omega) k (by omega) e) (fun i hi => by
      have h1 := hr i (by omega)
      rw [hP (r i), h0, f_zero_add] at h1
      exact f_zero_of_mul h1 (f_add_ne (hne i (by omega) d (by omega) (by omega))))
    intro y
    rw [hP y, h0, hq y, f_mul_zero, add_zero]

/-- The product of the first n. -/
def pr : Nat → (Nat → F) → F
  | 0, _ => 1
  | n + 1, f => pr n f * f n
theorem pr_congr {n : Nat} {f g : Nat → F} (h : ∀ i, i < n → f i = g i) : pr n f = pr n g := by
  induction n with
  | zero => rfl
  | succ n ih => unfold pr; rw [ih (fun i hi => h i (by omega)), h n (by omega)]
theorem pr_ne {n : Nat} {f : Nat → F} (h : ∀ i, i < n → f i ≠ 0) : pr n f ≠ 0 := by
  induction n with
  | zero => exact one_ne
  | succ n ih => unfold pr; exact f_mul_ne (ih fun i hi => h i (by omega)) (h n (by omega))
theorem pr_out {n t : Nat} (ht : t < n) (f : Nat → F) : pr n f = f t * pr n (fun l => if l = t then 1 else f l) := by
  induction n with
  | zero => omega
  | succ n ih =>
    show pr n f * f n = f t * (pr n (fun l => if l = t then 1 else f l) * (if n = t then 1 else f n))
    by_cases e : t = n
    · subst e
      rw [if_pos rfl, mul_one, mul_comm]
      congr 1
      exact pr_congr fun i hi => by rw [if_neg (by omega)]
    · rw [ih (by omega), if_neg (fun h => e h.symm), mul_assoc]
theorem pr_zero {n t : Nat} (ht : t < n) {f : Nat → F} (h : f t = 0) : pr n f = 0 := by rw [pr_out ht, h, f_zero_mul]
theorem deg_pr (x : Nat → F) : ∀ n, Deg (n + 1) (fun y => pr n (fun l => x l + y))
  | 0 => ⟨1, fun _ => 0, fun _ => rfl, fun y => by show (1 : F) = 1 + y * 0; rw [f_mul_zero, add_zero]⟩
  | n + 1 => (deg_pr x n).lin (x n)
theorem deg_prs (x : Nat → F) (t : Nat) : ∀ n, t < n → Deg n (fun y => pr n (fun l => if l = t then 1 else x l + y))
  | 0, h => by omega
  | n + 1, h => by
    by_cases e : t = n
    · subst e
      refine (deg_pr x t).congr fun y => ?_
      show pr t (fun l => x l + y) = pr t (fun l => if l = t then 1 else x l + y) * (if t = t then 1 else x t + y)
      rw [if_pos rfl, mul_one]
      exact pr_congr fun i hi => by rw [if_neg (by omega)]
    · refine ((deg_prs x t n (by omega)).lin (x n)).congr fun y => ?_
      show _ = pr n (fun l => if l = t then 1 else x l + y) * (if n = t then 1 else x n + y)
      rw [if_neg (fun h => e h.symm)]
theorem deg_sm {d : Nat} (P : Nat → F → F) (c : Nat → F) : ∀ m, (∀ t, t < m → Deg d (P t)) → Deg d (fun y => fsm m (fun t => c t * P t y))
  | 0, _ => Deg.zero d
  | m + 1, h => (deg_sm P c m fun t ht => h t (by omega)).add ((h m (by omega)).mul (c m))
/-- Cauchy: as many numbers of one kind as of the other, all unlike: no sum of multiples of the inverses of their sums is nothing, but that of noughts. -/
theorem cauchy {n : Nat} (x y : Nat → F) (hx : ∀ i, i < n → ∀ k, k < n → i ≠ k → x i ≠ x k) (hy : ∀ i, i < n → ∀ k, k < n → i ≠ k → y i ≠ y k) (hxy : ∀ i, i < n → ∀ j, j < n → x i ≠ y j) :
    Indep n n (fun i j => inv (x i + y j)) := by
  intro c h
  have hN := deg_sm (fun t y => pr n (fun l => if l = t then 1 else x l + y)) c n (fun t ht => deg_prs x t n ht)
  have h0 := hN.roots y hy (fun j hj => by
    have e1 : fsm n (fun t => c t * pr n (fun l => if l = t then 1 else x l + y j)) = fsm n (fun t => pr n (fun l => x l + y j) * (c t * inv (x t + y j))) := sm_congr fun t ht => by
      have hne : x t + y j ≠ 0 := f_add_ne (hxy t ht j hj)
      rw [pr_out ht (fun l => x l + y j), mul_comm (x t + y j), mul_assoc, f_mul_left_comm (x t + y j) (c t), mul_inv _ hne, mul_one, mul_comm]
    rw [e1, sm_mul, h j hj, f_mul_zero])
  intro i hi
  have h1 := h0 (x i)
  rw [sm_one hi (fun t ht hne => by
    rw [pr_zero hi (by rw [if_neg (fun e => hne e.symm), add_self]), f_mul_zero])] at h1
  rw [mul_comm] at h1
  refine f_zero_of_mul h1 (pr_ne fun l hl => ?_)
  split
  · exact one_ne
  · rename_i hne
    exact f_add_ne (hx l hl i hi hne)
end
end Go.Proofs.Ytpnpimhfakfolaa
/-
  Plain mathematics, going on: untied rows have an inverse; any k rows of the unit and Cauchy's rows below it are untied. Nothing of the program here.
-/
namespace Go.Proofs.Ytpnpimhfakfolaa
set_option linter.unusedVariables false
section
variable {F : Type} [Fld F]
open Fld

/-- As many untied rows as columns: each row is made of them. -/
theorem Indep.makes {n : Nat} {a : Nat → Nat → F} (h : Indep n n a) (v : Nat → F) : ∃ c : Nat → F, ∀ j, j < n → v j = fsm n (fun i => c i * a i j) := by
  obtain ⟨d, ⟨i0, hi0, hd⟩, h0⟩ := homog n (n + 1) (fun i j => if i < n then a i j else v j) (by omega)
  have hs : ∀ j, fsm (n + 1) (fun i => d i * (if i < n then a i j else v j)) = fsm n (fun i => d i * a i j) + d n * v j := by
    intro j
    show fsm n (fun i => d i * (if i < n then a i j else v j)) + d n * (if n < n then a n j else v j) = _
    rw [if_neg (by omega)]
    congr 1
    exact sm_congr fun i hi => by rw [if_pos hi]
  have hn : d n ≠ 0 := by
    intro e
    have hz := h d (fun j hj => by
      have := h0 j hj
      rw [hs j, e, f_zero_mul, add_zero] at this
      exact this)
    by_cases hi : i0 < n
    · exact hd (hz i0 hi)
    · have : i0 = n := by omega
      subst this
      exact hd e
  refine ⟨fun i => inv (d n) * d i, fun j hj => ?_⟩
  have h1 := h0 j hj
  rw [hs j] at h1
  have h2 := f_eq_of_add h1
  have e1 : fsm n (fun i => inv (d n) * d i * a i j) = inv (d n) * fsm n (fun i => d i * a i j) := by
    rw [← sm_mul]; exact sm_congr fun i _ => by rw [mul_assoc]
  rw [e1, h2, ← mul_assoc, mul_comm (inv (d n)), mul_inv _ hn, f_one_mul]
/-- .. so there is an inverse, .. -/
theorem Indep.inv_exists {n : Nat} {a : Nat → Nat → F} (h : Indep n n a) : ∃ m : Nat → Nat → F, ∀ i, i < n → ∀ j, j < n → mm n m a i j = un i j :=
  ⟨fun i => (h.makes (fun j => un i j)).choose, fun i _ j hj => ((h.makes (fun j => un i j)).choose_spec j hj).symm⟩
/-- .. one alone. -/
theorem minv_unique {n : Nat} {a m m' : Nat → Nat → F} (h : ∀ i, i < n → ∀ j, j < n → mm n m a i j = un i j) (h' : ∀ i, i < n → ∀ j, j < n → mm n m' a i j = un i j) : ∀ i, i < n → ∀ j, j < n → m i j = m' i j := by
  intro i hi j hj
  have hr := inv_right h
  have e1 : mm n (mm n m' a) m i j = m i j := by
    rw [mm_congr (a' := un) (b' := m) (fun k hk => h' i hi k hk) (fun _ _ => rfl), mm_un_left m hi]
  have e2 : mm n (mm n m' a) m i j = m' i j := by
    rw [mm_assoc, mm_congr (a' := m') (b' := un) (fun _ _ => rfl) (fun k hk => hr k hk j hj), mm_un_right m' i hj]
  rw [← e1, e2]

/-- Any k of the rows: those of the unit, and behind them Cauchy's. -/
theorem rs_indep {k N : Nat} (X : Nat → F) (sel : Nat → Nat) (hX : ∀ i, i < N → ∀ j, j < N → i ≠ j → X i ≠ X j) (hk : k ≤ N) (hs : ∀ t, t < k → sel t < N) (hd : ∀ t, t < k → ∀ u, u < k → t ≠ u → sel t ≠ sel u) :
    Indep k k (fun t j => if sel t < k then un (sel t) j else inv (X (sel t) + X j)) := by
  intro c h
  let x : Nat → F := fun t => X (sel t)
  have hx : ∀ t, t < k → ∀ u, u < k → t ≠ u → x t ≠ x u := fun t ht u hu e => hX _ (hs t ht) _ (hs u hu) (hd t ht u hu e)
  let c' : Nat → F := fun t => if sel t < k then 0 else c t
  have hN := deg_sm (fun t y => pr k (fun l => if l = t then 1 else x l + y)) c' k (fun t ht => deg_prs x t k ht)
  have h0 := hN.roots X (fun i hi j hj e => hX i (by omega) j (by omega) e) (fun j hj => by
    by_cases hhit : ∃ u, u < k ∧ sel u = j
    · obtain ⟨u, hu, rfl⟩ := hhit
      refine sm_zero fun t ht => ?_
      by_cases ht2 : sel t < k
      · show (if sel t < k then (0 : F) else c t) * _ = 0
        rw [if_pos ht2, f_zero_mul]
      · have hne : u ≠ t := fun e => ht2 (by rw [← e]; exact hj)
        rw [pr_zero hu (by rw [if_neg hne]; exact add_self _), f_mul_zero]
    · have hne : ∀ l, l < k → x l + X j ≠ 0 := fun l hl => f_add_ne (hX _ (hs l hl) j (by omega) (fun e => hhit ⟨l, hl, e⟩))
      have e1 : fsm k (fun t => c' t * pr k (fun l => if l = t then 1 else x l + X j)) = fsm k (fun t => pr k (fun l => x l + X j) * (c t * (if sel t < k then un (sel t) j else inv (X (sel t) + X j)))) := sm_congr fun t ht => by
        show (if sel t < k then (0 : F) else c t) * _ = _
        by_cases ht2 : sel t < k
        · rw [if_pos ht2, if_pos ht2, f_zero_mul]
          unfold un
          rw [if_neg (fun e => hhit ⟨t, ht, e⟩), f_mul_zero, f_mul_zero]
        · rw [if_neg ht2, if_neg ht2, pr_out ht (fun l => x l + X j), mul_comm (x t + X j), mul_assoc, f_mul_left_comm (x t + X j) (c t)]
          show c t * _ = _ * (c t * ((x t + X j) * inv (x t + X j)))
          rw [mul_inv _ (hne t ht), mul_one, mul_comm]
      rw [e1, sm_mul, h j hj, f_mul_zero])
  have hT : ∀ t, t < k → ¬ sel t < k → c t = 0 := by
    intro t ht ht2
    have h1 := h0 (x t)
    rw [sm_one ht (fun u hu hne => by rw [pr_zero ht (by rw [if_neg (fun e => hne e.symm)]; exact add_self _), f_mul_zero])] at h1
    have h2 : c' t = c t := by show (if sel t < k then (0 : F) else c t) = c t; rw [if_neg ht2]
    rw [h2, mul_comm] at h1
    refine f_zero_of_mul h1 (pr_ne fun l hl => ?_)
    split
    · exact one_ne
    · rename_i hne
      exact f_add_ne (hx l hl t ht hne)
  intro t ht
  by_cases ht2 : sel t < k
  · have h1 : fsm k (fun i => c i * (if sel i < k then un (sel i) (sel t) else inv (X (sel i) + X (sel t)))) = 0 := h (sel t) ht2
    rw [sm_one ht (fun u hu hne => by
      by_cases hu2 : sel u < k
      · rw [if_pos hu2]
        unfold un
        rw [if_neg (hd u hu t ht hne), f_mul_zero]
      · rw [hT u hu hu2, f_zero_mul])] at h1
    rw [if_pos ht2] at h1
    unfold un at h1
    rw [if_pos rfl, mul_one] at h1
    exact h1
  · exact hT t ht ht2
end
end Go.Proofs.Ytpnpimhfakfolaa
/-
  Plain mathematics of layer 8: rows cleared by others, in the program's way and in the document's; what both tell. Nothing of the program here.
-/
namespace Go.Proofs.Ytpnpimhfakfolaa
set_option linter.unusedVariables false
section
variable {F : Type} [Fld F]
open Fld

/-- The rows u are made of the rows v. -/
def Spn (n K : Nat) (u v : Nat → Nat → F) : Prop := ∃ A : Nat → Nat → F, ∀ i, i < n → ∀ j, j < K → u i j = fsm n (fun l => A i l * v l j)
theorem Spn.refl (n K : Nat) (u : Nat → Nat → F) : Spn n K u u := ⟨un, fun i hi j hj => (mm_un_left u hi j).symm⟩
theorem Spn.trans {n K : Nat} {u v x : Nat → Nat → F} (h : Spn n K u v) (k : Spn n K v x) : Spn n K u x := by
  obtain ⟨A, hA⟩ := h
  obtain ⟨B, hB⟩ := k
  exact ⟨_, span_trans hA hB⟩
theorem Spn.of_two {n K r : Nat} {u v : Nat → Nat → F} (x y : Nat → F) (s : Nat → Nat) (hr : r < n) (hs : ∀ i, i < n → s i < n) (h : ∀ i, i < n → ∀ j, j < K → u i j = x i * v (s i) j + y i * v r j) : Spn n K u v :=
  ⟨fun i l => x i * un (s i) l + y i * un r l, fun i hi j hj => by
    rw [h i hi j hj]
    have e : fsm n (fun l => (x i * un (s i) l + y i * un r l) * v l j) = fsm n (fun l => x i * un (s i) l * v l j + y i * un r l * v l j) := sm_congr fun l _ => f_add_mul _ _ _
    rw [e, sm_add, sm_one (hs i hi) (fun l _ hl => by unfold un; rw [if_neg (fun e => hl e.symm), f_mul_zero, f_zero_mul]), sm_one hr (fun l _ hl => by unfold un; rw [if_neg (fun e => hl e.symm), f_mul_zero, f_zero_mul])]
    unfold un
    rw [if_pos rfl, if_pos rfl, mul_one, mul_one]⟩
theorem Spn.congr {n K : Nat} {u v u' : Nat → Nat → F} (h : Spn n K u v) (e : ∀ i, i < n → ∀ j, j < K → u' i j = u i j) : Spn n K u' v := by
  obtain ⟨A, hA⟩ := h
  exact ⟨A, fun i hi j hj => by rw [e i hi j hj]; exact hA i hi j hj⟩
theorem sm_cut {r n : Nat} {f : Nat → F} (hr : r ≤ n) (h : ∀ i, r ≤ i → i < n → f i = 0) : fsm n f = fsm r f := by
  induction n with
  | zero => obtain rfl : r = 0 := by omega
            rfl
  | succ n ih =>
    by_cases e : r = n + 1
    · rw [e]
    · unfold fsm
      rw [ih (by omega) (fun i h1 h2 => h i h1 (by omega)), h n (by omega) (by omega), add_zero]
      cases r <;> rfl
theorem IsRank.congr {n m r : Nat} {a a' : Nat → Nat → F} (h : IsRank n m a r) (e : ∀ i, i < m → ∀ j, j < n → a' i j = a i j) : IsRank n m a' r := by
  obtain ⟨b, A, B, hi, hA, hB⟩ := h
  refine ⟨b, A, B, hi, fun i hi j hj => ?_, fun i hi j hj => ?_⟩
  · rw [hA i hi j hj]; exact sm_congr fun k hk => by rw [e k hk j hj]
  · rw [e i hi j hj]; exact hB i hi j hj

/-- The rows r and q exchanged. -/
def swi (r q i : Nat) : Nat := if i = r then q else if i = q then r else i
theorem swi_swi (r q i : Nat) : swi r q (swi r q i) = i := by unfold swi; (repeat' split) <;> omega
theorem swi_lt {r q i n : Nat} (hr : r < n) (hq : q < n) (hi : i < n) : swi r q i < n := by unfold swi; (repeat' split) <;> omega
/-- Row r has 1 in column c, all others 0. -/
def lead1 (m : Nat → Nat → F) (r c i j : Nat) : F := if i = r then inv (m r c) * m r j else m i j + m i c * (inv (m r c) * m r j)
/-- The columns up to C are done, r rows lead one each. -/
def Gst (n K C : Nat) (m0 m : Nat → Nat → F) (r : Nat) : Prop := ∃ p : Nat → Nat,
  r ≤ n ∧ Spn n K m m0 ∧ Spn n K m0 m ∧ (∀ s, s < r → p s < C) ∧ (∀ s t, s < t → t < r → p s < p t) ∧ (∀ i, i < n → ∀ s, s < r → m i (p s) = un i s) ∧ (∀ i, r ≤ i → i < n → ∀ j, j < C → m i j = 0)
theorem Gst.zero (n K : Nat) (m : Nat → Nat → F) : Gst n K 0 m m 0 :=
  ⟨fun _ => 0, by omega, Spn.refl _ _ _, Spn.refl _ _ _, fun s h => by omega, fun s t h1 h2 => by omega, fun i _ s h => by omega, fun i _ _ j h => by omega⟩
theorem Gst.le {n K C r : Nat} {m0 m : Nat → Nat → F} (h : Gst n K C m0 m r) : r ≤ n := by obtain ⟨p, h1, _⟩ := h; exact h1
theorem Gst.skip {n K C r : Nat} {m0 m : Nat → Nat → F} (h : Gst n K C m0 m r) (hz : ∀ i, r ≤ i → i < n → m i C = 0) : Gst n K (C + 1) m0 m r := by
  obtain ⟨p, h1, h2, h3, h4, h5, h6, h7⟩ := h
  refine ⟨p, h1, h2, h3, fun s hs => by have := h4 s hs; omega, h5, h6, fun i hi hn j hj => ?_⟩
  by_cases e : j = C
  · rw [e]; exact hz i hi hn
  · exact h7 i hi hn j (by omega)
theorem un_self (i : Nat) : (un i i : F) = 1 := if_pos rfl
theorem un_ne {i j : Nat} (h : i ≠ j) : (un i j : F) = 0 := if_neg h
theorem f_inv_mul {x : F} (h : x ≠ 0) : inv x * x = 1 := by rw [mul_comm]; exact mul_inv x h
theorem lead1_spn {n K r c : Nat} {m : Nat → Nat → F} (hr : r < n) (hc : m r c ≠ 0) : Spn n K (lead1 m r c) m ∧ Spn n K m (lead1 m r c) := by
  constructor
  · refine Spn.of_two (fun i => if i = r then inv (m r c) else 1) (fun i => if i = r then 0 else m i c * inv (m r c)) (fun i => i) hr (fun i h => h) (fun i hi j hj => ?_)
    unfold lead1
    by_cases e : i = r
    · rw [if_pos e, if_pos e, if_pos e, f_zero_mul, add_zero, e]
    · rw [if_neg e, if_neg e, if_neg e, f_one_mul, mul_assoc]
  · refine Spn.of_two (fun i => if i = r then m r c else 1) (fun i => if i = r then 0 else m i c) (fun i => i) hr (fun i h => h) (fun i hi j hj => ?_)
    unfold lead1
    by_cases e : i = r
    · simp only [if_pos e]
      rw [f_zero_mul, add_zero, ← mul_assoc, mul_inv _ hc, f_one_mul, e]
    · simp only [if_neg e, if_pos]
      rw [f_one_mul, add_assoc, add_self, add_zero]
theorem Gst.step {n K C r : Nat} {m0 m : Nat → Nat → F} (h : Gst n K C m0 m r) (q : Nat) (hq : r ≤ q) (hqn : q < n) (hne : m q C ≠ 0) :
    Gst n K (C + 1) m0 (lead1 (fun i => m (swi r q i)) r C) (r + 1) := by
  obtain ⟨p, h1, h2, h3, h4, h5, h6, h7⟩ := h
  have hrn : r < n := by omega
  have hsr : swi r q r = q := by unfold swi; rw [if_pos rfl]
  have s1 : Spn n K (fun i => m (swi r q i)) m := Spn.of_two (fun _ => 1) (fun _ => 0) (swi r q) hrn (fun i hi => swi_lt hrn hqn hi) (fun i hi j hj => by rw [f_one_mul, f_zero_mul, add_zero])
  have s2 : Spn n K m (fun i => m (swi r q i)) := Spn.of_two (fun _ => 1) (fun _ => 0) (swi r q) hrn (fun i hi => swi_lt hrn hqn hi) (fun i hi j hj => by rw [f_one_mul, f_zero_mul, add_zero, swi_swi])
  have hge : ∀ i, r ≤ i → r ≤ swi r q i := by intro i hi; unfold swi; (repeat' split) <;> omega
  have hlt : ∀ i, i < r → swi r q i = i := by intro i hi; unfold swi; (repeat' split) <;> omega
  generalize hx : (fun i => m (swi r q i)) = x at *
  have hxe : ∀ i j, x i j = m (swi r q i) j := fun i j => by rw [← hx]
  have hc : x r C ≠ 0 := by rw [hxe, hsr]; exact hne
  obtain ⟨l1, l2⟩ := lead1_spn (n := n) (K := K) (m := x) hrn hc
  have hz : ∀ j, j < C → x r j = 0 := fun j hj => by rw [hxe, hsr]; exact h7 q hq hqn j hj
  have hz7 : ∀ i, r ≤ i → i < n → ∀ j, j < C → x i j = 0 := fun i hi hn j hj => by rw [hxe]; exact h7 _ (hge i hi) (swi_lt hrn hqn hn) j hj
  have hz6 : ∀ i, i < r → ∀ s, s < r → x i (p s) = un i s := fun i hi s hs => by rw [hxe, hlt i hi]; exact h6 i (by omega) s hs
  refine ⟨fun s => if s < r then p s else C, by omega, (l1.trans s1).trans h2, h3.trans (s2.trans l2), fun s hs => ?_, fun s t hst ht => ?_, fun i hi s hs => ?_, fun i hi hn j hj => ?_⟩
  · show (if s < r then p s else C) < C + 1
    split
    · rename_i e; have := h4 s e; omega
    · omega
  · show (if s < r then p s else C) < (if t < r then p t else C)
    rw [if_pos (by omega)]
    split
    · rename_i e; exact h5 s t hst e
    · exact h4 s (by omega)
  · show lead1 x r C i (if s < r then p s else C) = un i s
    unfold lead1
    by_cases e : s < r
    · rw [if_pos e, hz _ (h4 s e), f_mul_zero, f_mul_zero, add_zero]
      by_cases ei : i = r
      · rw [if_pos ei, un_ne (by omega)]
      · rw [if_neg ei]
        by_cases ej : i < r
        · exact hz6 i ej s e
        · rw [hz7 i (by omega) hi _ (h4 s e), un_ne (by omega)]
    · obtain rfl : s = r := by omega
      rw [if_neg e]
      by_cases ei : i = s
      · rw [if_pos ei, ei, un_self]; exact f_inv_mul hc
      · rw [if_neg ei, f_inv_mul hc, mul_one, add_self, un_ne ei]
  · unfold lead1
    have ei : i ≠ r := by omega
    rw [if_neg ei]
    by_cases ej : j = C
    · subst ej
      rw [f_inv_mul hc, mul_one, add_self]
    · rw [hz j (by omega), f_mul_zero, f_mul_zero, add_zero]
      exact hz7 i (by omega) hn j (by omega)
theorem Gst.rank {n K C r : Nat} {m0 m : Nat → Nat → F} (h : Gst n K C m0 m r) (hC : C ≤ K) : IsRank C n m0 r := by
  obtain ⟨p, h1, ⟨A, h2⟩, ⟨B, h3⟩, h4, h5, h6, h7⟩ := h
  refine ⟨m, A, B, fun c hc s hs => ?_, fun i hi j hj => h2 i (by omega) j (by omega), fun i hi j hj => ?_⟩
  · have h8 := hc (p s) (h4 s hs)
    rw [sm_one hs (fun i hi hne => by rw [h6 i (by omega) s hs, un_ne hne, f_mul_zero]), h6 s (by omega) s hs, un_self, mul_one] at h8
    exact h8
  · rw [h3 i hi j (by omega)]
    exact sm_cut h1 (fun l hl hn => by rw [h7 l hl hn j hj, f_mul_zero])
theorem inc_id {n : Nat} {p : Nat → Nat} (h4 : ∀ s, s < n → p s < n) (h5 : ∀ s t, s < t → t < n → p s < p t) (s : Nat) (hs : s < n) : p s = s := by
  have h1 : ∀ s, s < n → s ≤ p s := by
    intro s
    induction s with
    | zero => intro _; omega
    | succ s ih => intro h; have := ih (by omega); have := h5 s (s + 1) (by omega) h; omega
  have h2 : ∀ d, s + d < n → p s + d ≤ p (s + d) := by
    intro d
    induction d with
    | zero => intro _; exact Nat.le_refl _
    | succ d ih => intro h; have := ih (by omega); have := h5 (s + d) (s + (d + 1)) (by omega) h; omega
  have h3 := h2 (n - 1 - s) (by omega)
  have h6 := h4 (s + (n - 1 - s)) (by omega)
  have h7 := h1 s hs
  omega
/-- What made the unit of the rows made the inverse of the unit beside them. -/
theorem Gst.inverse {n : Nat} {a m0 m : Nat → Nat → F} (h : Gst n (2 * n) n m0 m n) (ha : ∀ i, i < n → ∀ j, j < n → m0 i j = a i j) (hu : ∀ i, i < n → ∀ j, j < n → m0 i (n + j) = un i j) :
    ∀ i, i < n → ∀ j, j < n → mm n (fun i j => m i (n + j)) a i j = un i j := by
  obtain ⟨p, h1, ⟨A, h2⟩, _, h4, h5, h6, h7⟩ := h
  intro i hi j hj
  have e1 : ∀ l, l < n → m i (n + l) = A i l := fun l hl => by
    rw [h2 i hi (n + l) (by omega), sm_congr (g := fun k => A i k * un k l) (fun k hk => by rw [hu k hk l hl])]
    exact mm_un_right A i hl
  show fsm n (fun k => m i (n + k) * a k j) = _
  rw [sm_congr (g := fun k => A i k * m0 k j) (fun k hk => by rw [e1 k hk, ha k hk j hj]), ← h2 i hi j (by omega)]
  have := h6 i hi j hj
  rwa [inc_id h4 h5 j hj] at this

/-- The document's way: the rows up to i are done, r of them are not nothing. -/
def Rst (n K i : Nat) (m0 m : Nat → Nat → F) (r : Nat) : Prop := ∃ s q : Nat → Nat,
  r ≤ i ∧ Spn n K m m0 ∧ Spn n K m0 m ∧ (∀ t, t < r → s t < i ∧ q t < K ∧ m (s t) (q t) ≠ 0) ∧ (∀ t u, t < u → u < r → s t < s u) ∧ (∀ t, t < r → ∀ k, s t < k → k < n → m k (q t) = 0) ∧
  (∀ (f : Nat → F) j, j < K → fsm i (fun l => f l * m l j) = fsm r (fun t => f (s t) * m (s t) j))
theorem Rst.zero (n K : Nat) (m : Nat → Nat → F) : Rst n K 0 m m 0 :=
  ⟨fun _ => 0, fun _ => 0, by omega, Spn.refl _ _ _, Spn.refl _ _ _, fun s h => by omega, fun s t h1 h2 => by omega, fun i h => by omega, fun f j h => rfl⟩
theorem Rst.skip {n K i r : Nat} {m0 m : Nat → Nat → F} (h : Rst n K i m0 m r) (hz : ∀ j, j < K → m i j = 0) : Rst n K (i + 1) m0 m r := by
  obtain ⟨s, q, h1, h2, h3, h4, h5, h6, h7⟩ := h
  refine ⟨s, q, by omega, h2, h3, fun t ht => ⟨by have := (h4 t ht).1; omega, (h4 t ht).2⟩, h5, h6, fun f j hj => ?_⟩
  show fsm i _ + f i * m i j = _
  rw [hz j hj, f_mul_zero, add_zero]
  exact h7 f j hj
/-- The rows behind i cleared in column c. -/
def clr (m : Nat → Nat → F) (i c k j : Nat) : F := if i < k then m k j + m k c * inv (m i c) * m i j else m k j
theorem Rst.step {n K i r : Nat} {m0 m : Nat → Nat → F} (h : Rst n K i m0 m r) (hi : i < n) (c : Nat) (hc : c < K) (hne : m i c ≠ 0) : Rst n K (i + 1) m0 (clr m i c) (r + 1) := by
  obtain ⟨s, q, h1, h2, h3, h4, h5, h6, h7⟩ := h
  have ci : ∀ j, clr m i c i j = m i j := fun j => by unfold clr; rw [if_neg (by omega)]
  have cl : ∀ k j, k ≤ i → clr m i c k j = m k j := fun k j hk => by unfold clr; rw [if_neg (by omega)]
  have l1 : Spn n K (clr m i c) m := Spn.of_two (fun _ => 1) (fun k => if i < k then m k c * inv (m i c) else 0) (fun k => k) hi (fun k h => h) (fun k hk j hj => by
    unfold clr
    by_cases e : i < k
    · rw [if_pos e, if_pos e, f_one_mul]
    · rw [if_neg e, if_neg e, f_one_mul, f_zero_mul, add_zero])
  have l2 : Spn n K m (clr m i c) := Spn.of_two (fun _ => 1) (fun k => if i < k then m k c * inv (m i c) else 0) (fun k => k) hi (fun k h => h) (fun k hk j hj => by
    rw [ci]
    unfold clr
    by_cases e : i < k
    · rw [if_pos e, if_pos e, f_one_mul, add_assoc, add_self, add_zero]
    · rw [if_neg e, if_neg e, f_one_mul, f_zero_mul, add_zero])
  have hs : ∀ t, t < r → s t < i := fun t ht => (h4 t ht).1
  refine ⟨fun t => if t < r then s t else i, fun t => if t < r then q t else c, by omega, l1.trans h2, h3.trans l2, fun t ht => ?_, fun t u htu hu => ?_, fun t ht k hk hkn => ?_, fun f j hj => ?_⟩
  · simp only []
    by_cases e : t < r
    · rw [if_pos e, if_pos e, cl _ _ (by have := hs t e; omega)]
      exact ⟨by have := hs t e; omega, (h4 t e).2⟩
    · rw [if_neg e, if_neg e, ci]
      exact ⟨by omega, hc, hne⟩
  · simp only []
    rw [if_pos (by omega)]
    split
    · rename_i e; exact h5 t u htu e
    · exact hs t (by omega)
  · simp only [] at hk ⊢
    by_cases e : t < r
    · rw [if_pos e] at hk ⊢
      unfold clr
      split
      · rw [h6 t e k hk hkn, h6 t e i (hs t e) hi, f_mul_zero, add_zero]
      · exact h6 t e k hk hkn
    · rw [if_neg e] at hk ⊢
      unfold clr
      rw [if_pos hk, mul_assoc, f_inv_mul hne, mul_one, add_self]
  · show fsm i (fun l => f l * clr m i c l j) + f i * clr m i c i j = fsm r (fun t => f (if t < r then s t else i) * clr m i c (if t < r then s t else i) j) + f (if r < r then s r else i) * clr m i c (if r < r then s r else i) j
    rw [if_neg (by omega), sm_congr (g := fun l => f l * m l j) (fun l hl => by rw [cl l j (by omega)]), h7 f j hj]
    congr 1
    exact sm_congr fun t ht => by rw [if_pos ht, cl _ _ (by have := hs t ht; omega)]
theorem Rst.rank {n K r : Nat} {m0 m : Nat → Nat → F} (h : Rst n K n m0 m r) : IsRank K n m0 r := by
  obtain ⟨s, q, h1, ⟨A, h2⟩, ⟨B, h3⟩, h4, h5, h6, h7⟩ := h
  refine ⟨fun t j => m (s t) j, fun t l => A (s t) l, fun i t => B i (s t), fun c hc => ?_, fun t ht j hj => h2 (s t) (h4 t ht).1 j hj, fun i hi j hj => ?_⟩
  · have H : ∀ N t, t < N → t < r → c t = 0 := by
      intro N
      induction N with
      | zero => intro t h; omega
      | succ N ih =>
        intro t htN ht
        have h8 := hc (q t) (h4 t ht).2.1
        rw [sm_one ht (fun u hu hne => by
          by_cases e : u < t
          · rw [ih u (by omega) hu, f_zero_mul]
          · show c u * m (s u) (q t) = 0
            rw [h6 t ht (s u) (h5 t u (by omega) hu) (h4 u hu).1, f_mul_zero])] at h8
        rw [mul_comm] at h8
        exact f_zero_of_mul h8 (h4 t ht).2.2
    intro t ht
    exact H (t + 1) t (by omega) ht
  · rw [h3 i hi j hj]
    exact h7 (B i) j hj
end
end Go.Proofs.Ytpnpimhfakfolaa
/-
  Helper words on memory, going on: slices whose elements are one cell each, as lists of cells ('RdV'), rows of the call's own ('OwV'), append. No statement of the seed is proved here.
-/
namespace Go.Proofs.Ytpnpimhfakfolaa
open Go.RowKit

/-- The slice '.slice A n c' reads as the cells vs. -/
structure RdV (w : World) (A : Option Addr) (n c : Nat) (vs : List Value) : Prop where
  len : vs.length = n
  cap : n ≤ c
  most : c ≤ maxLen
  cells : 0 < n → ∃ b off, A = some ⟨b, off, none⟩ ∧ ∀ j, (h : j < vs.length) → w.cell? ⟨b, off + j, none⟩ = some vs[j]
section
variable {w w' : World} {A : Option Addr} {n c : Nat} {vs : List Value} {S : List Nat}
theorem RdV.nil (w : World) : RdV w none 0 0 [] := ⟨rfl, Nat.le_refl _, by simp [maxLen], fun h => absurd h (by omega)⟩
theorem RdV.at_ (h : RdV w A n c vs) (hn : 0 < n) : ∃ b off, A = some ⟨b, off, none⟩ ∧ b < w.heap.size ∧ ∀ j, (hj : j < vs.length) → w.cell? ⟨b, off + j, none⟩ = some vs[j] := by
  obtain ⟨b, off, e, hc⟩ := h.cells hn
  have hl := h.len
  have h0 := hc 0 (by omega)
  exact ⟨b, off, e, World.block_lt_of_cell? w _ h0, hc⟩
theorem RdV.keep (h : RdV w A n c vs) (hk : ∀ b off, A = some ⟨b, off, none⟩ → b < w.heap.size → w'.heap[b]? = w.heap[b]?) : RdV w' A n c vs :=
  ⟨h.len, h.cap, h.most, fun hn => by
    obtain ⟨b, off, e, hb, hc⟩ := h.at_ hn
    exact ⟨b, off, e, fun j hj => (World.cell?_of_block (w := w) (hk b off e hb)).trans (hc j hj)⟩⟩
theorem RdV.kept (h : RdV w A n c vs) (hk : Kept S w w') (hS : Off A S) : RdV w' A n c vs :=
  h.keep fun b _ e hb => hk.block b hb (hS _ e)
theorem RdV.kept0 (h : RdV w A n c vs) (hk : Kept [] w w') : RdV w' A n c vs := h.kept hk (fun _ _ => by simp)
theorem RdV.keptNew (h : RdV w A n c vs) (hk : Kept S w w') (hS : ∀ k, k ∈ S → w.heap.size ≤ k) : RdV w' A n c vs :=
  h.keep fun b _ _ hb => hk.block b hb (fun hm => by have := hS b hm; omega)
theorem RdV.one (w : World) (e : TypeId) (v : Value) : RdV (w.alloc (.cells #[v] e)) (some ⟨w.heap.size, 0, none⟩) 1 1 [v] := by
  refine ⟨rfl, Nat.le_refl _, by simp [maxLen], fun _ => ⟨w.heap.size, 0, rfl, fun j hj => ?_⟩⟩
  have hj0 : j = 0 := by simpa using hj
  subst hj0
  rw [cell_of_row _ _ _ _ _ _ (heap_alloc_new w _)]
  rfl
theorem RdV.drop (h : RdV w A n c vs) (k : Nat) (hk : k ≤ n) : RdV w (if c = k then A else A.map (·.add k)) (n - k) (c - k) (vs.drop k) := by
  have hl := h.len
  have hc := h.cap
  have hm := h.most
  refine ⟨by rw [List.length_drop, hl], by omega, by omega, fun hp => ?_⟩
  obtain ⟨b, off, rfl, hcell⟩ := h.cells (by omega)
  rw [if_neg (by omega)]
  have h2 : (⟨b, off, none⟩ : Addr).add k = ⟨b, off + k, none⟩ := by unfold Addr.add; split <;> simp_all
  refine ⟨b, off + k, by simp [h2], fun j hj => ?_⟩
  rw [List.length_drop] at hj
  have := hcell (k + j) (by omega)
  rw [List.getElem_drop, Nat.add_assoc]
  exact this
theorem RdV.take (h : RdV w A n c vs) (k : Nat) (hk : k ≤ n) : RdV w A k c (vs.take k) := by
  have hl := h.len
  have hc := h.cap
  refine ⟨by rw [List.length_take]; omega, by omega, h.most, fun hp => ?_⟩
  obtain ⟨b, off, e, hcell⟩ := h.cells (by omega)
  refine ⟨b, off, e, fun j hj => ?_⟩
  rw [List.length_take] at hj
  rw [List.getElem_take]
  exact hcell j (by omega)
theorem RdV.news {a : Addr} (h : RdV w (some a) n c vs) : ∀ j u, vs[j]? = some u → w.cell? (a.add j) = some u := by
  intro j u hu
  obtain ⟨hj, rfl⟩ := List.getElem?_eq_some_iff.1 hu
  have hl := h.len
  obtain ⟨b, off, e, _, hc⟩ := h.at_ (by omega)
  injection e with e
  subst e
  have := hc j hj
  simp only [Addr.add]
  split
  · rename_i h0
    subst h0
    exact this
  · exact this
end

/-- A slice value that owns its row, which begins at a block's head: one that can be appended to. -/
def OwV (e : TypeId) (w : World) (v : Value) (vs : List Value) : Prop := w.ownsRow 0 e 1 v vs.length vs
section
variable {e : TypeId} {w w' : World} {v : Value} {vs : List Value} {S : List Nat}
theorem OwV.nil (e : TypeId) (w : World) : OwV e w (.slice none 0 0) [] := World.ownsRow_nil _ _ _ _
theorem OwV.empty (e : TypeId) (w : World) : OwV e (w.alloc (.cells #[] e)) (.slice (some ⟨w.heap.size, 0, none⟩) 0 0) [] :=
  ⟨rfl, .inr ⟨w.heap.size, 0, #[], rfl, Nat.zero_le _, heap_alloc_new w _, Nat.le_refl _, by simp [maxLen], rfl, rfl⟩⟩
theorem OwV.form (h : OwV e w v vs) : ∃ A n c, v = .slice A n c ∧ RdV w A n c vs ∧ (∀ g, v.ownBlock = some g → g < w.heap.size) := by
  rcases h.2 with ⟨rfl, hn⟩ | ⟨g, cap, cur, rfl, _, hg, hnc, hcm, hcs, htake⟩
  · have : vs = [] := List.eq_nil_of_length_eq_zero hn
    subst this
    exact ⟨none, 0, 0, rfl, RdV.nil w, by simp [Value.ownBlock]⟩
  · have hlt : g < w.heap.size := (Array.getElem?_eq_some_iff.1 hg).1
    refine ⟨some ⟨g, 0, none⟩, _, cap, rfl, ⟨rfl, hnc, hcm, fun _ => ⟨g, 0, rfl, fun j hj => ?_⟩⟩, by simp [Value.ownBlock]; omega⟩
    rw [Nat.zero_add]
    rw [cell_of_row w g j cur e (0, 0) hg]
    have := congrArg (fun l : List Value => l[j]?) htake
    simp only [List.getElem?_take] at this
    rw [if_pos (by omega), List.getElem?_eq_getElem hj] at this
    simpa using this
theorem OwV.rd {A : Option Addr} {n c : Nat} (h : OwV e w (.slice A n c) vs) : RdV w A n c vs := by
  obtain ⟨A', m, d, e, hr, _⟩ := h.form
  injection e with e1 e2 e3
  subst e1 e2 e3
  exact hr
theorem OwV.keep (h : OwV e w v vs) (hk : ∀ g, v.ownBlock = some g → g < w.heap.size → w'.heap[g]? = w.heap[g]?) : OwV e w' v vs := by
  refine ⟨h.1, ?_⟩
  rcases h.2 with hn | ⟨g, cap, cur, rfl, hb, hg, rest⟩
  · exact .inl hn
  · exact .inr ⟨g, cap, cur, rfl, hb, (hk g rfl (Array.getElem?_eq_some_iff.1 hg).1).trans hg, rest⟩
theorem OwV.kept (h : OwV e w v vs) (hk : Kept S w w') (hS : ∀ g, v.ownBlock = some g → g ∉ S) : OwV e w' v vs := h.keep fun g hg hl => hk.block g hl (hS g hg)
theorem OwV.kept0 (h : OwV e w v vs) (hk : Kept [] w w') : OwV e w' v vs := h.kept hk (fun _ _ => by simp)
theorem OwV.alloc (h : OwV e w v vs) (o : Obj) : OwV e (w.alloc o) v vs := h.kept0 ((Kept.refl [] w).alloc o)
theorem OwV.drew (h : OwV e w v vs) : OwV e w.drew v vs := h.kept0 ((Kept.refl [] w).drew)
end

section
variable {P : Program} {w : World}
/-- append(row, cells...), whatever the source is (nil, empty, or not). -/
theorem run_append_vals (t ty e : TypeId) (i : TypeInfo) (z : Value) (bytes : Nat) (ht : P.underlying t = some (.slice e)) (hi : P.info? e = some i) (hz : i.zero = some z)
    (hsize : i.size = 1) (hby : i.bytes = bytes) (hzs : z.cells.size = 1) {v : Value} {xs : List Value} (hown : OwV e w v xs)
    {A : Option Addr} {m c : Nat} {news : List Value} (hr : RdV w A m c news) (h1 : ∀ u ∈ news, u.oneCell' = true) (h63 : xs.length + m ≤ maxLen) (hbytes : (xs.length + m) * bytes ≤ 140737488355328) :
    ∃ v' w', (Builtin.append_ #[t, t] ty #[v, .slice A m c]).run P w = .ok v' w' ∧ OwV e w' v' (xs ++ news) ∧ Kept v.ownBlock.toList w w' ∧ Moved w v v' := by
  rcases A with _ | a
  · have hm : m = 0 := by
      rcases Nat.eq_zero_or_pos m with h0 | h0
      · exact h0
      · obtain ⟨b, off, e, _⟩ := hr.cells h0
        cases e
    subst hm
    have hn : news = [] := List.eq_nil_of_length_eq_zero hr.len
    subst hn
    refine ⟨v, w, ?_, by simpa using hown, Kept.refl _ _, Moved.refl _ _⟩
    rcases hown.2 with ⟨rfl, _⟩ | ⟨g, cap, cur, rfl, _, _, hnc, _⟩
    · simp [Builtin.append_, run_underlying ht, sizeOf, typeInfo, hi, Builtin.lenOf, Builtin.firstCells]
    · simp [Builtin.append_, run_underlying ht, sizeOf, typeInfo, hi, Builtin.lenOf, Builtin.firstCells, hnc, storeCells]
  · obtain ⟨v', w', hrun, h2, h3, _, h5⟩ := run_append_own_at (P := P) w 0 t ty e i z 1 bytes ht hi hz hsize hby hzs (by omega) v xs.length xs hown a m c news
      (by rw [hr.len]; omega) hr.news h1 h63 hbytes (Nat.zero_le _)
    refine ⟨v', w', hrun, ?_, (Kept.refl _ _).grown h3 (by intro k hk; simp [hk]), ?_⟩
    · have := hr.len
      unfold OwV
      rw [List.length_append, this]
      exact h2
    · intro g hg
      rcases h5 with h5 | h5
      · exact .inl (by rw [← h5]; exact hg)
      · rw [h5] at hg
        injection hg with hg
        exact .inr (by omega)
theorem wpList_append_vals {ops : Array Oper} {rest : List Oper} {o : Oper} {a : Act} {Q : Exit → Act → World → Prop} (hgd : o.guard = none) (s x : Operand) (t : TypeId)
    (ho : o.op = .call { callee := .builtin .append, args := #[s, x], argTypes := #[t, t] })
    (e : TypeId) (i : TypeInfo) (z : Value) (bytes : Nat) (ht : P.underlying t = some (.slice e)) (hi : P.info? e = some i) (hz : i.zero = some z)
    (hsize : i.size = 1) (hby : i.bytes = bytes) (hzs : z.cells.size = 1)
    (v : Value) (xs : List Value) (hs : a.eval s = v) (hown : OwV e w v xs)
    (A : Option Addr) (m c : Nat) (news : List Value) (hx : a.eval x = .slice A m c) (hr : RdV w A m c news) (h1 : ∀ u ∈ news, u.oneCell' = true)
    (h63 : xs.length + m ≤ maxLen) (hbytes : (xs.length + m) * bytes ≤ 140737488355328)
    (h : ∀ v' w', OwV e w' v' (xs ++ news) → Kept v.ownBlock.toList w w' → Moved w v v' → wpList P ops Q rest (a.put o.dst v') w') : wpList P ops Q (o :: rest) a w := by
  refine wpList_plain hgd fun K hK => ?_
  obtain ⟨v', w', hrun, h2, h3, h4⟩ := run_append_vals (P := P) (w := w) t o.type e i z bytes ht hi hz hsize hby hzs hown hr h1 h63 hbytes
  unfold Oper.wp execOp
  simp only [ho, resolve, invoke, builtin, Sem.run_bind, Sem.run_pure, Result.andThen_ok, List.map_toArray, List.map_cons, List.map_nil, hs, hx, hrun]
  exact hK _ _ (h v' w' h2 h3 h4)
theorem step_append_vals {ops : Array Oper} {o : Oper} {a : Act} {K : Act → World → Prop} {Q : Exit → Act → World → Prop} {E : Prop} (hgd : o.guard = none) (s x : Operand) (t : TypeId)
    (ho : o.op = .call { callee := .builtin .append, args := #[s, x], argTypes := #[t, t] })
    (e : TypeId) (i : TypeInfo) (z : Value) (bytes : Nat) (ht : P.underlying t = some (.slice e)) (hi : P.info? e = some i) (hz : i.zero = some z)
    (hsize : i.size = 1) (hby : i.bytes = bytes) (hzs : z.cells.size = 1)
    (v : Value) (xs : List Value) (hs : a.eval s = v) (hown : OwV e w v xs)
    (A : Option Addr) (m c : Nat) (news : List Value) (hx : a.eval x = .slice A m c) (hr : RdV w A m c news) (h1 : ∀ u ∈ news, u.oneCell' = true)
    (h63 : xs.length + m ≤ maxLen) (hbytes : (xs.length + m) * bytes ≤ 140737488355328)
    (h : ∀ v' w', OwV e w' v' (xs ++ news) → Kept v.ownBlock.toList w w' → Moved w v v' → K (a.put o.dst v') w') :
    if Region.wanted o (yielded ops a.tmps) = true then Oper.wp P o a w K Q else E := by
  have hw : Region.wanted o (yielded ops a.tmps) = true := by simp [Region.wanted, hgd]
  rw [if_pos hw]
  obtain ⟨v', w', hrun, h2, h3, h4⟩ := run_append_vals (P := P) (w := w) t o.type e i z bytes ht hi hz hsize hby hzs hown hr h1 h63 hbytes
  unfold Oper.wp execOp
  simp only [ho, resolve, invoke, builtin, Sem.run_bind, Sem.run_pure, Result.andThen_ok, List.map_toArray, List.map_cons, List.map_nil, hs, hx, hrun]
  exact h v' w' h2 h3 h4
/-- What an append leaves, seen from an elder world behind which the row was made. -/
theorem app_new {wr W w5 : World} {v v5 : Value} (hK : Kept [] wr W) (hv : ∀ g, v.ownBlock = some g → wr.heap.size ≤ g) (hk : Kept v.ownBlock.toList W w5) (hm : Moved W v v5) :
    Kept [] wr w5 ∧ ∀ g, v5.ownBlock = some g → wr.heap.size ≤ g := by
  refine ⟨hK.trans hk (fun i hi => .inr (hv i (by simpa using hi))), fun g hg => ?_⟩
  rcases hm g hg with h | h
  · exact hv g h
  · exact Nat.le_trans hK.size h
end
theorem RdV.one_at {w : World} {g : Nat} {v : Value} {e : TypeId} {fr : Nat × Nat} (h : w.heap[g]? = some (.cells #[v] e fr)) : RdV w (some ⟨g, 0, none⟩) 1 1 [v] := by
  refine ⟨rfl, Nat.le_refl _, by simp [maxLen], fun _ => ⟨g, 0, rfl, fun j hj => ?_⟩⟩
  have hj0 : j = 0 := by simpa using hj
  subst hj0
  rw [cell_of_row _ _ _ _ _ _ h]
  rfl
theorem OwV.empty_at {w : World} {g : Nat} {e : TypeId} (h : w.heap[g]? = some (.cells #[] e (0, 0))) : OwV e w (.slice (some ⟨g, 0, none⟩) 0 0) [] :=
  ⟨rfl, .inr ⟨g, 0, #[], rfl, Nat.zero_le _, h, Nat.le_refl _, by simp [maxLen], rfl, rfl⟩⟩
end Go.Proofs.Ytpnpimhfakfolaa
/-
  How arguments that came in are read: words between a row's data and this seat's walks. No statement of the seed is proved here.
-/
namespace Go.Proofs.Ytpnpimhfakfolaa
open Go.ChangeShapes Go.WideShapes Go.ChangeAt Go.RowKit

theorem zs_byte (z : Int) (h : (Lit.int .u8 z).wf = true) : z = ((UInt8.ofNat z.toNat).toNat : Int) := by
  have := bounds_u8 h
  simp only [UInt8.toNat_ofNat']
  omega

/-- A byte slice that came in reads as bytes. -/
theorem rdb_of_trod {H : Type} {enc : TypeId × Value → H} {P : Program} {W : World} {t e : TypeId} {a : Option Addr} {len cap base : Nat} {sp : Nat → Bool} {held : Bool} {d : DataW H} {p : List MemPlace}
    (ht : P.underlying t = some (.slice e)) (he : P.underlying e = some (.int .u8)) (hc : P.cellsOf e = 1)
    (h : DataW.Trod enc P W base sp held t (.slice a len cap) d p) : ∃ bs, RdB W a len cap bs := by
  obtain ⟨fuel, hf⟩ := h
  rcases open_ints ht he hc hf with ⟨hcs, _⟩ | ⟨x, l, c, zs, hcs, _, hl, hm, hz, _, hcell, hwz⟩
  · simp [Value.cells] at hcs
    obtain ⟨rfl, rfl, rfl⟩ := hcs
    exact ⟨[], RdB.nil W⟩
  · simp [Value.cells] at hcs
    obtain ⟨rfl, rfl, rfl⟩ := hcs
    have hlen : len ≤ zs.length := by rw [hz]; split <;> omega
    refine ⟨(zs.take len).map (fun z => UInt8.ofNat z.toNat), by simp; omega, hl, hm, fun hp => ?_⟩
    obtain ⟨b, off, spot⟩ := x
    have hs : spot = none := by
      have h0 := hcell 0 (by omega)
      simpa [Addr.add] using World.cell?_spot h0
    subst hs
    refine ⟨b, off, rfl, fun j hj => ?_⟩
    simp only [List.length_map, List.length_take] at hj
    have hjz : j < zs.length := by omega
    have h1 := hcell j hjz
    have h2 : (⟨b, off, none⟩ : Addr).add j = ⟨b, off + j, none⟩ := by unfold Addr.add; split <;> simp_all
    rw [h2] at h1
    rw [h1]
    have h3 : zs.getD j 0 = zs[j] := by simp [hjz]
    rw [h3]
    simp only [bcell, List.getElem_map, List.getElem_take]
    rw [← zs_byte zs[j] (hwz _ (List.getElem_mem hjz))]

/-- Element by element makes a list. -/
theorem list_of {α : Type} {R : Nat → α → Prop} : ∀ {n : Nat}, (∀ i, i < n → ∃ a, R i a) → ∃ l : List α, l.length = n ∧ ∀ j, (h : j < l.length) → R j l[j]
  | 0, _ => ⟨[], rfl, fun j h => absurd h (by simp)⟩
  | n + 1, hh => by
    obtain ⟨l, hl, hr⟩ := list_of (n := n) (fun i hi => hh i (by omega))
    obtain ⟨a, ha⟩ := hh n (by omega)
    refine ⟨l ++ [a], by simp [hl], fun j hj => ?_⟩
    rw [List.length_append, List.length_singleton] at hj
    rcases Nat.lt_or_ge j l.length with h1 | h1
    · rw [List.getElem_append_left h1]; exact hr j h1
    · obtain rfl : j = l.length := by omega
      simp only [List.getElem_concat_length]
      rw [hl]; exact ha

section
variable {H : Type} {enc : TypeId × Value → H} {P : Program} {W : World} {base : Nat} {sp : Nat → Bool} {held : Bool}

theorem addr_add (b off j : Nat) : (⟨b, off, none⟩ : Addr).add j = ⟨b, off + j, none⟩ := by unfold Addr.add; split <;> simp_all

/-- A slice that came in, element by element: where its cells lie, and that each element reads. -/
theorem slice_elems {t e : TypeId} {n : Nat} {cs0 : List Value} {y : DataW H × List MemPlace} (ht : P.underlying t = some (.slice e)) (hC : 0 < P.cellsOf e) (h : DataW.trod enc P W base sp held n t cs0 = some y) :
    ∃ A len cap, cs0 = [.slice A len cap] ∧ len ≤ cap ∧ cap ≤ maxLen ∧ (0 < len → ∃ b off, A = some ⟨b, off, none⟩ ∧ ∀ i, i < len → ∃ (cs : List Value) (m : Nat) (z : DataW H × List MemPlace), cs.length = P.cellsOf e ∧
      (∀ j, j < P.cellsOf e → W.cell? ⟨b, off + (i * P.cellsOf e + j), none⟩ = cs[j]?) ∧ DataW.trod enc P W base sp held m e cs = some z) := by
  rcases Deep.open_slice ht h with ⟨rfl, _⟩ | ⟨a, len, cap, m, k, D, Pl, rfl, hb, hl, hm, hmm, hx, hi⟩
  · exact ⟨none, 0, 0, rfl, Nat.le_refl _, by simp [maxLen], fun h => absurd h (by omega)⟩
  · refine ⟨some a, len, cap, rfl, hl, hm, fun hp => ?_⟩
    have hlm : len ≤ m := by rw [hmm]; split <;> omega
    obtain ⟨b, off, spot⟩ := a
    have hs : spot = none := by
      obtain ⟨cs', hc, _⟩ := hi 0 (by omega)
      obtain ⟨_, hcl, hat⟩ := World.cells?_some hc
      have h0 := hat 0 hC
      rw [List.getElem?_eq_getElem (by omega)] at h0
      simpa [Addr.add] using World.cell?_spot h0
    subst hs
    refine ⟨b, off, rfl, fun i hil => ?_⟩
    obtain ⟨cs', hc, htr⟩ := hi i (by omega)
    obtain ⟨_, hcl, hat⟩ := World.cells?_some hc
    refine ⟨cs', k, _, hcl, fun j hj => ?_, htr⟩
    have := hat j hj
    rwa [addr_add, addr_add, Nat.add_assoc] at this

/-- One field of a struct that reads: its type, its place, its number of cells. -/
theorem struct_field {t : TypeId} {fs : Array Field} {n : Nat} {cs : List Value} {y : DataW H × List MemPlace} (ht : P.underlying t = some (.struct fs)) (h : DataW.trod enc P W base sp held n t cs = some y) (i : Nat) (ft : TypeId) (o k : Nat)
    (hf : (fs[i]?).map (fun f => (f.type, f.offset)) = some (ft, o)) (hk : P.cellsOf ft = k) : ∃ (m : Nat) (z : DataW H × List MemPlace), DataW.trod enc P W base sp held m ft ((cs.drop o).take k) = some z := by
  obtain ⟨xs, m, _, _, _, hlen, hall⟩ := DataW.trod_struct ht h
  obtain ⟨f, hf1, hf2⟩ := Option.map_eq_some_iff.1 hf
  simp only [Prod.mk.injEq] at hf2
  obtain ⟨rfl, rfl⟩ := hf2
  subst hk
  have := hall i f hf1
  have hi : i < fs.size := (Array.getElem?_eq_some_iff.1 hf1).1
  exact ⟨m, xs[i]'(by omega), by rw [this, List.getElem?_eq_getElem (by omega)]⟩
theorem leaf_int {t : TypeId} {k : IntKind} {n : Nat} {cs : List Value} {y : DataW H × List MemPlace} (ht : P.underlying t = some (.int k)) (h : DataW.trod enc P W base sp held n t cs = some y) : ∃ z, cs = [.int k z] ∧ (Lit.int k z).wf = true := by
  obtain ⟨a, e0, _, wa⟩ := DataW.trod_int ht h
  exact ⟨a, e0, wa⟩
theorem leaf_bytes {t e : TypeId} {n : Nat} {cs : List Value} {y : DataW H × List MemPlace} (ht : P.underlying t = some (.slice e)) (he : P.underlying e = some (.int .u8)) (hc : P.cellsOf e = 1) (h : DataW.trod enc P W base sp held n t cs = some y) :
    ∃ A len cap bs, cs = [.slice A len cap] ∧ RdB W A len cap bs := by
  obtain ⟨A, len, cap, rfl, _⟩ := slice_elems ht (by omega) h
  obtain ⟨bs, hb⟩ := rdb_of_trod (d := y.1) (p := y.2) (a := A) (len := len) (cap := cap) ht he hc ⟨n, by simpa [Value.cells] using h⟩
  exact ⟨A, len, cap, bs, rfl, hb⟩
end
end Go.Proofs.Ytpnpimhfakfolaa
/-
  Helper words on memory, going on: a piece of a block stored whole. No statement of the seed is proved here.
-/
namespace Go.Proofs.Ytpnpimhfakfolaa
open Go.RowKit
set_option linter.unusedVariables false

theorem Blk.setCells {g : Nat} {t : TypeId} : ∀ (vs : List Value) (w : World) (L : List Value) (off : Nat), Blk w g t L → off + vs.length ≤ L.length → Blk (w.setCells g off vs) g t (splice L off vs)
  | [], w, L, off, h, _ => by rw [splice_nil]; exact h
  | v :: r, w, L, off, h, hl => by
    rw [List.length_cons] at hl
    have h1 := Blk.setCells r (w.setCell ⟨g, off, none⟩ v) (L.set off v) (off + 1) (h.set off v) (by rw [List.length_set]; omega)
    have e : splice (L.set off v) (off + 1) r = splice L off (v :: r) := by
      unfold splice
      have e1 : (L.set off v).take (off + 1) = L.take off ++ [v] := by
        rw [List.take_set, List.take_add_one, List.getElem?_eq_getElem (by omega)]
        rw [List.set_append_right _ _ (by rw [List.length_take]; omega)]
        congr 1
        rw [List.length_take, Nat.min_eq_left (by omega), Nat.sub_self]; rfl
      rw [e1, List.drop_set_of_lt (by omega), List.length_cons, show off + 1 + r.length = off + (r.length + 1) by omega]
      simp only [List.append_assoc, List.nil_append, List.cons_append]
    rw [← e]; exact h1
theorem kept_setCells {g : Nat} : ∀ (vs : List Value) (w : World) (off : Nat), Kept [g] w (w.setCells g off vs)
  | [], w, off => Kept.refl _ _
  | v :: r, w, off => ((Kept.refl [g] w).setCell (p := ⟨g, off, none⟩) (.inl (by simp)) v).trans (kept_setCells r _ _) (by simp)
theorem Blk.setAll {g : Nat} {t : TypeId} {w : World} {L vs : List Value} (h : Blk w g t L) (hl : L.length = vs.length) : Blk (w.setCells g 0 vs) g t vs := by
  have := Blk.setCells vs w L 0 h (by omega)
  have e : splice L 0 vs = vs := by unfold splice; rw [List.take_zero, List.nil_append, Nat.zero_add, ← hl, List.drop_length, List.append_nil]
  rwa [e] at this
theorem Blk.there {g : Nat} {t : TypeId} {w : World} {L : List Value} (h : Blk w g t L) (n : Nat) (hn : n = L.length) : w.there g 0 n := fun j hj => by
  rw [Nat.zero_add, h.cell, List.getElem?_eq_getElem (by omega)]
  exact ⟨rfl, h.frz j⟩
theorem Blk.thereAt {g : Nat} {t : TypeId} {w : World} {L : List Value} (h : Blk w g t L) (o n : Nat) (hn : o + n ≤ L.length) : w.there g o n := fun j hj => by
  rw [h.cell, List.getElem?_eq_getElem (by omega)]
  exact ⟨rfl, h.frz _⟩
theorem Blk.rangeOf {w : World} {g : Nat} {t : TypeId} {cs : List Value} (h : Blk w g t cs) : w.rangeAt g 0 cs := fun j v hv => by rw [Nat.zero_add, h.cell]; exact hv
/-- A region that draws, all of whose operations but the last ones read: an array or a struct loaded whole. -/
theorem wpStill_load_blk {P : Program} {ops : Array Oper} {rest : List Oper} {o : Oper} {a : Act} {w : World} {Q : Act → Prop} (hgd : o.guard = none) (ty : TypeId) (x : Operand) (ho : o.op = .load ty x)
    (g off : Nat) (hx : a.eval x = .pointer (some ⟨g, off, none⟩)) (cs : List Value) (d : TypeDesc) (hc : w.rangeAt g off cs) (hu : P.underlying ty = some d) (hd : d.isRow = true) (hi : (P.info? ty).map (·.size) = some cs.length)
    (h : wpStill P ops w Q rest (a.put o.dst (.agg cs.toArray))) : wpStill P ops w Q (o :: rest) a := by
  unfold wpStill
  rw [if_pos (by simp [Region.wanted, hgd])]
  unfold Oper.still execOp
  simp only [ho, hx, Instr.loadAt, Instr.sureAddr, Sem.run_bind, Sem.run_pure, Result.andThen_ok, run_loadVar_mid w g off ty cs d hc hu hd hi, Oper.stillUpon]
  exact ⟨trivial, h⟩
theorem OwB.blk {e : TypeId} {w : World} {g n : Nat} {bs : List UInt8} (h : OwB e w (.slice (some ⟨g, 0, none⟩) n n) bs) : Blk w g e (bvs bs) := by
  have hl := h.rd.len
  unfold OwB at h
  rcases h.2 with ⟨e1, _⟩ | ⟨g', cap, cur, e1, _, hg, _, _, hcs, ht⟩
  · cases e1
  · injection e1 with e1 e2 e3
    injection e1 with e1; injection e1 with e1
    subst e1 e3
    have : cur = (bvs bs).toArray := by
      rw [← ht, List.take_of_length_le (by simp; omega)]
    subst this
    exact hg
theorem Blk.own {e : TypeId} {w : World} {g n : Nat} {bs : List UInt8} (h : Blk w g e (bvs bs)) (hl : bs.length = n) (hn : n ≤ maxLen) : OwB e w (.slice (some ⟨g, 0, none⟩) n n) bs := by
  subst hl
  exact ⟨by rw [bvs_length, Nat.mul_one], .inr ⟨g, _, _, rfl, Nat.zero_le _, h, Nat.le_refl _, hn, by simp [bvs], by rw [Nat.mul_one, List.take_of_length_le (by simp [bvs])]⟩⟩
end Go.Proofs.Ytpnpimhfakfolaa
/-
  The byte type's row, and bytes that are told anew. No statement of the seed is proved here.
-/
namespace Go.Proofs.Ytpnpimhfakfolaa
open Go.RowKit

theorem u8info : (Try.prog.info? 5).map (fun i => (i.zero, i.size, i.bytes)) = some (some (.int .u8 0), 1, 1) := by kernel_rfl
/-- A new byte slice that holds bs. -/
def CloneRet (bs : List UInt8) (w : World) (e : Ending) (w' : World) : Prop :=
  ∃ v, e = .returned v ∧ OwB 5 w' v bs ∧ Kept [] w w' ∧ ∀ g, v.ownBlock = some g → w.heap.size ≤ g
end Go.Proofs.Ytpnpimhfakfolaa
/-
  A byte slice that is cut: what its pieces read as. No statement of the seed is proved here.
-/
namespace Go.Proofs.Ytpnpimhfakfolaa
open Go.RowKit

theorem RdB.drop {w : World} {A : Option Addr} {n c : Nat} {bs : List UInt8} (h : RdB w A n c bs) (k : Nat) (hk : k ≤ n) :
    RdB w (if c = k then A else A.map (·.add k)) (n - k) (c - k) (bs.drop k) := by
  have hl := h.len
  have hc := h.cap
  have hm := h.most
  refine ⟨by rw [List.length_drop, hl], by omega, by omega, fun hp => ?_⟩
  obtain ⟨b, off, rfl, hcell⟩ := h.cells (by omega)
  rw [if_neg (by omega)]
  have h2 : (⟨b, off, none⟩ : Addr).add k = ⟨b, off + k, none⟩ := by unfold Addr.add; split <;> simp_all
  refine ⟨b, off + k, by simp [h2], fun j hj => ?_⟩
  rw [List.length_drop] at hj
  have := hcell (k + j) (by omega)
  rw [List.getElem_drop, Nat.add_assoc]
  exact this
theorem RdB.take {w : World} {A : Option Addr} {n c : Nat} {bs : List UInt8} (h : RdB w A n c bs) (k : Nat) (hk : k ≤ n) : RdB w A k c (bs.take k) := by
  have hl := h.len
  have hc := h.cap
  refine ⟨by rw [List.length_take]; omega, by omega, h.most, fun hp => ?_⟩
  obtain ⟨b, off, e, hcell⟩ := h.cells (by omega)
  refine ⟨b, off, e, fun j hj => ?_⟩
  rw [List.length_take] at hj
  rw [List.getElem_take]
  exact hcell j (by omega)

theorem off_add {A : Option Addr} {S : List Nat} (h : Off A S) (k : Nat) : Off (A.map (·.add k)) S := by
  intro a ha
  rcases A with _ | b
  · cases ha
  · simp only [Option.map_some, Option.some.injEq] at ha
    subst ha
    have := h b rfl
    unfold Addr.add
    split <;> exact this

end Go.Proofs.Ytpnpimhfakfolaa
/-
  A region whose operations come in any order that its edges allow: a law by an invariant over what has been done. Nothing of the program here.
-/
namespace Go.Proofs.Ytpnpimhfakfolaa
open Go
set_option linter.unusedVariables false
section
variable {P : Program} {ops : Array Oper} {Q : Exit → Act → World → Prop}

theorem oper_wp_then {o : Oper} {a : Act} {w : World} {K : Act → World → Prop} (h : o.wp P a w (fun a w => Exit.then K Q .normal a w) (Exit.then K Q)) : o.wp P a w K Q := by
  unfold Oper.wp at *
  generalize (execOp a.eval o).run P w = r at *
  cases r with
  | ok n w' =>
    cases n <;> simp only [Oper.upon] at h ⊢ <;>
      first
        | exact h
        | exact Calls.mono h (fun e w'' he => by cases e <;> exact he)
        | exact Rows.mono h (fun _ _ he => he)
  | halt x w' => cases x <;> simp only [Oper.upon] at h ⊢ <;> exact h

theorem wpOp_of_list {i : Nat} {o : Oper} {a : Act} {w : World} {K : Act → World → Prop} (ho : ops[i]? = some o) (h : wpList P ops (Exit.then K Q) [o] a w) : wpOp P ops Q i K a w := by
  unfold wpOp
  simp only [ho]
  unfold wpList at h
  split
  · rename_i hw
    rw [if_pos hw] at h
    rcases h with h | ⟨h1, h2⟩
    · exact .inl (oper_wp_then h)
    · exact .inr ⟨h1, h2⟩
  · rename_i hw
    rw [if_neg hw] at h
    exact h

def left (f : Nat → Bool) : Nat → Nat
  | 0 => 0
  | n + 1 => left f n + (if f n then 0 else 1)
theorem left_le (f g : Nat → Bool) (h : ∀ i, f i = true → g i = true) : ∀ n, left g n ≤ left f n
  | 0 => Nat.le_refl _
  | n + 1 => by
    have ih := left_le f g h n
    unfold left
    cases hf : f n
    · split <;> simp <;> omega
    · rw [h n hf]; simpa using ih
theorem left_lt (f g : Nat → Bool) (h : ∀ i, f i = true → g i = true) (i : Nat) (h1 : f i = false) (h2 : g i = true) : ∀ n, i < n → left g n < left f n
  | 0, hi => absurd hi (by omega)
  | n + 1, hi => by
    by_cases hn : i = n
    · subst hn
      have := left_le f g h i
      unfold left
      rw [h1, h2]
      simp
      omega
    · have ih := left_lt f g h i h1 h2 n (by omega)
      have h3 : (if g n then 0 else 1) ≤ (if f n then 0 else 1) := by
        cases hf : f n
        · split <;> simp
        · rw [h n hf]; simp
      unfold left
      omega

theorem ready_mem {md : Region.Mode} {listed : Array Bool} {i : Nat} (h : i ∈ Region.ready md ops listed) : i < ops.size ∧ listed.getD i true = false := by
  unfold Region.ready at h
  simp only [List.mem_filter, List.mem_range, Bool.and_eq_true, Bool.not_eq_true'] at h
  exact ⟨h.1, h.2.1⟩
theorem getD_set (listed : Array Bool) (i j : Nat) (h : listed.getD j true = true) : (listed.setIfInBounds i true).getD j true = true := by
  simp only [Array.getD_eq_getD_getElem?, Array.getElem?_setIfInBounds] at *
  split
  · split <;> simp
  · exact h
theorem getD_set_self (listed : Array Bool) (i : Nat) : (listed.setIfInBounds i true).getD i true = true := by
  simp only [Array.getD_eq_getD_getElem?, Array.getElem?_setIfInBounds]
  by_cases h : i < listed.size <;> simp [h]
theorem left_zero (f : Nat → Bool) : ∀ n, left f n = 0 → ∀ i, i < n → f i = true
  | 0, _, i, hi => absurd hi (by omega)
  | n + 1, h, i, hi => by
    unfold left at h
    by_cases hn : i = n
    · subst hn
      cases hf : f i
      · rw [hf] at h; simp at h
      · rfl
    · exact left_zero f n (by omega) i (by omega)

theorem wpAny_inv {md : Region.Mode} (I : Array Bool → Act → World → Prop)
    (hstep : ∀ (listed : Array Bool) (a : Act) (w : World), I listed a w → ∀ (i : Nat) (o : Oper), ops[i]? = some o → i ∈ Region.ready md ops listed → wpList P ops (Exit.then (I (listed.setIfInBounds i true)) Q) [o] a w)
    (hend : ∀ (listed : Array Bool) (a : Act) (w : World), Region.ready md ops listed = [] → I listed a w → Q .normal a w) :
    ∀ (fuel : Nat) (listed : Array Bool) (a : Act) (w : World), left (fun i => listed.getD i true) ops.size ≤ fuel → I listed a w → wpAny P md ops Q fuel listed a w
  | 0, listed, a, w, hf, hI => by
    have hr : Region.ready md ops listed = [] := by
      cases hc : Region.ready md ops listed with
      | nil => rfl
      | cons x xs =>
        have hm := ready_mem (ops := ops) (md := md) (listed := listed) (i := x) (by rw [hc]; simp)
        have := left_zero (fun i => listed.getD i true) ops.size (by omega) x hm.1
        simp only [hm.2] at this
        cases this
    exact ⟨hr, hend listed a w hr hI⟩
  | fuel + 1, listed, a, w, hf, hI => by
    refine ⟨fun hr => hend listed a w hr hI, fun i hi => ?_⟩
    have hm := ready_mem hi
    obtain ⟨o, ho⟩ : ∃ o, ops[i]? = some o := ⟨ops[i]'hm.1, Array.getElem?_eq_getElem hm.1⟩
    refine wpOp_mono (fun a' w' h => ?_) (wpOp_of_list ho (hstep listed a w hI i o ho hi))
    refine wpAny_inv I hstep hend fuel _ a' w' ?_ h
    have := left_lt (fun i => listed.getD i true) (fun j => (listed.setIfInBounds i true).getD j true) (fun j hj => getD_set listed i j hj) i hm.2 (getD_set_self listed i) ops.size hm.1
    omega

theorem wp_region_inv {id : Nat} {a : Act} {w : World} (hm : P.follows .mixedOrders = true) (I : Array Bool → Act → World → Prop)
    (h0 : I (Array.replicate ops.size false) a w.drew)
    (hstep : ∀ (listed : Array Bool) (a : Act) (w : World), I listed a w → ∀ (i : Nat) (o : Oper), ops[i]? = some o → i ∈ Region.ready .any ops listed → wpList P ops (Exit.then (I (listed.setIfInBounds i true)) Q) [o] a w)
    (hend : ∀ (listed : Array Bool) (a : Act) (w : World), Region.ready .any ops listed = [] → I listed a w → Q .normal a w) : (Code.region id ops true).wp P Q a w := by
  refine wp_region_any hm (wpAny_inv I hstep hend ops.size _ a _ ?_ h0)
  have : ∀ (f : Nat → Bool) n, left f n ≤ n := by
    intro f n
    induction n with
    | zero => exact Nat.le_refl _
    | succ n ih => unfold left; split <;> omega
  exact this _ _
end
end Go.Proofs.Ytpnpimhfakfolaa
/-
  A region whose operations come in any order that its edges allow, step by step: loads of arrays and structs are taken first, what is left comes one by one. Nothing of the program here.
-/
namespace Go.Proofs.Ytpnpimhfakfolaa
open Go Go.RowKit
set_option linter.unusedVariables false
section
variable {P : Program} {ops : Array Oper} {Q : Exit → Act → World → Prop} {S : World → Prop} {md : Region.Mode}

/-- The beginning. -/
theorem wp_region_begin {id : Nat} {a : Act} {w : World} (S : World → Prop) (hm : P.follows .mixedOrders = true)
    (h : wpAnyH P .any ops (NoPanic Q) S ops.size (Array.replicate ops.size false) a w.drew) : (Code.region id ops true).wp P Q a w :=
  wp_region_noPanic (wp_region_held hm h)
/-- An array or a struct, loaded whole, taken first. -/
theorem held_load (i : Nat) {oi : Oper} {fuel : Nat} {listed : Array Bool} {a : Act} {w : World} (hi : ops[i]? = some oi) (hs : Region.noSelect ops = true) (hf : Region.free md ops listed i = true) (hr : (Region.ready md ops listed).contains i = true)
    (hw : Region.wanted oi (yielded ops a.tmps) = true) (ty : TypeId) (x : Operand) (ho : oi.op = .load ty x) (b o : Nat) (hx : a.eval x = .pointer (some ⟨b, o, none⟩)) (cs : List Value) (d : TypeDesc)
    (hS : ∀ w, S w → w.rangeAt b o cs) (hu : P.underlying ty = some d) (hd : d.isRow = true) (hz : (P.info? ty).map (·.size) = some cs.length) (hSw : S w)
    (h : wpAnyH P md ops (NoPanic Q) S fuel (listed.setIfInBounds i true) (a.put oi.dst (.agg cs.toArray)) w) : wpAnyH P md ops (NoPanic Q) S (fuel + 1) listed a w :=
  wpAnyH_take hi hs hf hr (fun _ _ _ h => h) (yieldsIf_load_mid hw ty x ho b o hx cs d hS hu hd hz) hSw h
/-- What only reckons, taken first. -/
theorem held_pure (i : Nat) {oi : Oper} {fuel : Nat} {listed : Array Bool} {a : Act} {w : World} (v : Value) (hi : ops[i]? = some oi) (hs : Region.noSelect ops = true) (hf : Region.free md ops listed i = true) (hr : (Region.ready md ops listed).contains i = true)
    (hw : Region.wanted oi (yielded ops a.tmps) = true) (hv : ∀ w, S w → (execOp a.eval oi).run P w = .ok (.value v) w) (hSw : S w)
    (h : wpAnyH P md ops (NoPanic Q) S fuel (listed.setIfInBounds i true) (a.put oi.dst v) w) : wpAnyH P md ops (NoPanic Q) S (fuel + 1) listed a w :=
  wpAnyH_take hi hs hf hr (fun _ _ _ h => h) (.inl ⟨hw, hv⟩) hSw h
/-- The only one that may come next. -/
theorem held_one (i : Nat) {oi : Oper} {fuel : Nat} {listed : Array Bool} {a : Act} {w : World} (hr : Region.ready md ops listed = [i]) (hi : ops[i]? = some oi)
    (h : wpList P ops (Exit.then (fun a' w' => S w' ∧ wpAnyH P md ops Q S fuel (listed.setIfInBounds i true) a' w') Q) [oi] a w) : wpAnyH P md ops Q S (fuel + 1) listed a w :=
  wpAnyH_all hr (by simp) (fun j hj => by
    obtain rfl : j = i := by simpa using hj
    exact wpOp_of_list hi h)
/-- All are done. -/
theorem held_done {listed : Array Bool} {a : Act} {w : World} {fuel : Nat} (hr : Region.ready md ops listed = []) (h : Q .normal a w) : wpAnyH P md ops (NoPanic Q) S fuel listed a w :=
  wpAnyH_done hr (NoPanic.normal h) fuel
end
end Go.Proofs.Ytpnpimhfakfolaa
/-
  Operations that only reckon, as one equation each, for regions that are walked step by step. Nothing of the program here.
-/
namespace Go.Proofs.Ytpnpimhfakfolaa
open Go Go.RowKit
set_option linter.unusedVariables false
section
variable {P : Program} {ops : Array Oper} {Q : Exit → Act → World → Prop} {S : World → Prop} {md : Region.Mode}
/-- As held_load, the slot named. -/
theorem held_loadD (i d : Nat) {oi : Oper} {fuel : Nat} {listed : Array Bool} {a : Act} {w : World} (hi : ops[i]? = some oi) (hdst : oi.dst = some d) (hs : Region.noSelect ops = true) (hf : Region.free md ops listed i = true) (hr : (Region.ready md ops listed).contains i = true)
    (hw : Region.wanted oi (yielded ops a.tmps) = true) (ty : TypeId) (x : Operand) (ho : oi.op = .load ty x) (b o : Nat) (hx : a.eval x = .pointer (some ⟨b, o, none⟩)) (cs : List Value) (u : TypeDesc)
    (hS : ∀ w, S w → w.rangeAt b o cs) (hu : P.underlying ty = some u) (hd : u.isRow = true) (hz : (P.info? ty).map (·.size) = some cs.length) (hSw : S w)
    (h : wpAnyH P md ops (NoPanic Q) S fuel (listed.setIfInBounds i true) (a.put (some d) (.agg cs.toArray)) w) : wpAnyH P md ops (NoPanic Q) S (fuel + 1) listed a w :=
  held_load i hi hs hf hr hw ty x ho b o hx cs u hS hu hd hz hSw (by rw [hdst]; exact h)
/-- As held_pure, the slot named. -/
theorem held_pureD (i d : Nat) {oi : Oper} {fuel : Nat} {listed : Array Bool} {a : Act} {w : World} (v : Value) (hi : ops[i]? = some oi) (hdst : oi.dst = some d) (hs : Region.noSelect ops = true) (hf : Region.free md ops listed i = true) (hr : (Region.ready md ops listed).contains i = true)
    (hw : Region.wanted oi (yielded ops a.tmps) = true) (hv : ∀ w, S w → (execOp a.eval oi).run P w = .ok (.value v) w) (hSw : S w)
    (h : wpAnyH P md ops (NoPanic Q) S fuel (listed.setIfInBounds i true) (a.put (some d) v) w) : wpAnyH P md ops (NoPanic Q) S (fuel + 1) listed a w :=
  held_pure i v hi hs hf hr hw hv hSw (by rw [hdst]; exact h)
end
section
variable {P : Program} {o : Oper} {ev : Operand → Value}
theorem pure_conv (src dst : TypeId) (x : Operand) (ho : o.op = .convert src dst x) (q k : IntKind) (z r : Int) (hx : ev x = .int q z) (hs : (P.underlying src).isSome = true) (hd : P.underlying dst = some (.int k)) (hr : k.wrap z = r) (w : World) :
    (execOp ev o).run P w = .ok (.value (.int k r)) w := by
  obtain ⟨d, hd'⟩ := Option.isSome_iff_exists.mp hs
  unfold execOp
  simp only [ho, hx]
  simp [convert, run_underlying hd', run_underlying hd, Conv.intToInt, hr]
theorem pure_add (t u : TypeId) (x y : Operand) (ho : o.op = .binOp .add t x y u) (k : IntKind) (a b r : Int) (hx : ev x = .int k a) (hy : ev y = .int k b) (hr : k.wrap (a + b) = r) (w : World) :
    (execOp ev o).run P w = .ok (.value (.int k r)) w := by
  unfold execOp
  simp only [ho, hx, hy]
  simp [eqGuard, binOp, Op.intArith, hr]
theorem pure_quo (t u : TypeId) (x y : Operand) (ho : o.op = .binOp .quo t x y u) (k : IntKind) (a b r : Int) (hx : ev x = .int k a) (hy : ev y = .int k b) (hb : b ≠ 0) (hr : k.wrap (a.tdiv b) = r) (w : World) :
    (execOp ev o).run P w = .ok (.value (.int k r)) w := by
  unfold execOp
  simp only [ho, hx, hy]
  simp [eqGuard, binOp, Op.intDiv, hb, hr]
theorem pure_cut (t : TypeId) (x : Operand) (lo hi : Option Operand) (ho : o.op = .slice t x lo hi none) (A : Option Addr) (n c : Nat) (u : Value) (hx : ev x = .slice A n c) (e : TypeId) (ht : P.underlying t = some (.slice e)) (w : World)
    (h : (Instr.slice t (.slice A n c) (lo.map ev) (hi.map ev) none).run P w = .ok u w) : (execOp ev o).run P w = .ok (.value u) w := by
  unfold execOp
  simp only [ho, hx]
  simp [Instr.sliceAt, run_underlying ht, h]
end
end Go.Proofs.Ytpnpimhfakfolaa
/-
  Byte slices that are cut, as one equation each; guarded operations; an empty row of one's own. No statement of the seed is proved here.
-/
namespace Go.Proofs.Ytpnpimhfakfolaa
open Go.RowKit
set_option linter.unusedVariables false

theorem wpList_unguard {P : Program} {ops : Array Oper} {Q : Exit → Act → World → Prop} {a : Act} {w : World} {rest : List Oper} {o : Oper} (hw : Region.wanted o (yielded ops a.tmps) = true)
    (h : wpList P ops Q ({ o with guard := none } :: rest) a w) : wpList P ops Q (o :: rest) a w := by
  unfold wpList at h ⊢
  rw [if_pos hw]
  rw [if_pos (by simp [Region.wanted])] at h
  cases o
  exact h
section
variable {P : Program} {w : World} {A : Option Addr} {n c : Nat} {bs : List UInt8}
theorem size_of_elem (t e : TypeId) (ht : P.underlying t = some (.slice e)) (hs : (P.info? e).map (·.size) = some 1) (W : World) : (sizeOf (P.elem t)).run P W = .ok 1 W := by
  cases hq : P.info? e with
  | none => simp [hq] at hs
  | some i =>
    have hi : i.size = 1 := by simpa [hq] using hs
    have he : P.elem t = e := by simp [Program.elem, ht]
    rw [he]; simp [sizeOf, typeInfo, hq, hi]
/-- A byte slice that is cut from one place up to another. -/
theorem RdB.cutMid (h : RdB w A n c bs) (t e : TypeId) (ht : P.underlying t = some (.slice e)) (hs : (P.info? e).map (·.size) = some 1) (l k : Nat) (y z : Int) (hy : y = (l : Int)) (hz : z = (k : Int)) (hl : l ≤ k) (hk : k ≤ n) :
    ∃ A', RdB w A' (k - l) (c - l) ((bs.drop l).take (k - l)) ∧ ∀ W, (Instr.slice t (.slice A n c) (some (.int .i64 y)) (some (.int .i64 z)) none).run P W = .ok (.slice A' (k - l) (c - l)) W := by
  subst hy hz
  have hcap := h.cap
  refine ⟨_, (h.drop l (by omega)).take (k - l) (by omega), fun W => ?_⟩
  have he : P.elem t = e := by simp [Program.elem, ht]
  rw [run_slice_lh (P := P) W t A n c (by rw [he]; exact ht) .i64 .i64 (l : Int) (k : Int) (by omega) (by omega) (by omega), size_of_elem t e ht hs W]
  simp [sliced, Result.andThen]
/-- .. up to a place. -/
theorem RdB.cutTo (h : RdB w A n c bs) (t e : TypeId) (ht : P.underlying t = some (.slice e)) (hs : (P.info? e).map (·.size) = some 1) (k : Nat) (z : Int) (hz : z = (k : Int)) (hk : k ≤ n) :
    ∃ A', RdB w A' k c (bs.take k) ∧ ∀ W, (Instr.slice t (.slice A n c) none (some (.int .i64 z)) none).run P W = .ok (.slice A' k c) W := by
  subst hz
  have hcap := h.cap
  have h0 := (h.drop 0 (by omega)).take k (by omega)
  rw [List.drop_zero, Nat.sub_zero] at h0
  refine ⟨_, h0, fun W => ?_⟩
  have he : P.elem t = e := by simp [Program.elem, ht]
  rw [run_slice_h (P := P) W t A n c (by rw [he]; exact ht) .i64 (k : Int) (by omega) (by omega), size_of_elem t e ht hs W]
  simp [sliced, Result.andThen]
end
/-- A byte slice that is cut from a place on. -/
theorem RdB.cutFrom {P : Program} {w : World} {A : Option Addr} {n c : Nat} {bs : List UInt8} (h : RdB w A n c bs) (t e : TypeId) (ht : P.underlying t = some (.slice e)) (hs : (P.info? e).map (·.size) = some 1) (k : Nat) (z : Int) (hz : z = (k : Int)) (hk : k ≤ n) :
    ∃ A', RdB w A' (n - k) (c - k) (bs.drop k) ∧ (∀ S, Off A S → Off A' S) ∧ ∀ W, (Instr.slice t (.slice A n c) (some (.int .i64 z)) none none).run P W = .ok (.slice A' (n - k) (c - k)) W := by
  subst hz
  have hcap := h.cap
  refine ⟨_, h.drop k hk, ?_, ?_⟩
  · intro S hS
    split
    · exact hS
    · exact off_add hS k
  · intro W
    cases hq : P.info? e with
    | none => simp [hq] at hs
    | some i =>
      have hi : i.size = 1 := by simpa [hq] using hs
      have he : P.elem t = e := by simp [Program.elem, ht]
      rw [run_slice_l (P := P) W t A n c (by rw [he]; exact ht) .i64 (k : Int) (by omega) (by omega)]
      have hz : (sizeOf (P.elem t)).run P W = .ok 1 W := by rw [he]; simp [sizeOf, typeInfo, hq, hi]
      rw [hz]
      simp [sliced, Result.andThen]
/-- x[k:] of a whole row. -/
theorem run_cut_last {P : Program} (t e : TypeId) (ht : P.underlying t = some (.slice e)) (hs : (P.info? e).map (·.size) = some 1) (g n k : Nat) (z : Int) (hz : z = (k : Int)) (hk : k < n) (W : World) :
    (Instr.slice t (.slice (some ⟨g, 0, none⟩) n n) (some (.int .i64 z)) none none).run P W = .ok (.slice (some ⟨g, k, none⟩) (n - k) (n - k)) W := by
  subst hz
  have he : P.elem t = e := by simp [Program.elem, ht]
  rw [run_slice_l (P := P) W t _ n n (by rw [he]; exact ht) .i64 (k : Int) (by omega) (by omega), size_of_elem t e ht hs W]
  simp [sliced, Result.andThen, Addr.add_mid, show n ≠ k by omega]

theorem own_empty (w : World) : OwB 5 (w.alloc (.cells #[] 5)) (.slice (some ⟨w.heap.size, 0, none⟩) 0 0) [] := by
  have := World.ownsRow_lit (base := 0) (e := 5) (size := 1) w #[] 0 (Nat.zero_le _) (by simp [maxLen]) rfl
  simpa [OwB, bvs] using this
/-- A row of one's own, cut to its first k. -/
theorem OwB.cut {e : TypeId} {w : World} {A : Option Addr} {n c : Nat} {bs : List UInt8} (h : OwB e w (.slice A n c) bs) (k : Nat) (hk : k ≤ n) : OwB e w (.slice A k c) (bs.take k) := by
  have hl := h.rd.len
  unfold OwB at h ⊢
  have hkl : (bs.take k).length = k := by rw [List.length_take]; omega
  refine ⟨by rw [bvs_length, Nat.mul_one], ?_⟩
  rw [hkl]
  rcases h.2 with ⟨e1, hn⟩ | ⟨g, cap, cur, e1, hb, hg, hnc, hcm, hcs, ht⟩
  · injection e1 with e1 e2 e3
    subst e1 e2 e3
    have : k = 0 := by omega
    subst this
    exact .inl ⟨rfl, rfl⟩
  · injection e1 with e1 e2 e3
    subst e1 e3
    refine .inr ⟨g, c, cur, rfl, hb, hg, by omega, hcm, hcs, ?_⟩
    have h2 := congrArg (List.take (k * 1)) ht
    rw [List.take_take, Nat.min_eq_left (by omega)] at h2
    rw [h2, Nat.mul_one, bvs, bvs, List.map_take]
/-- x[:k], where x begins stays. -/
theorem run_cut_first {P : Program} (t e : TypeId) (ht : P.underlying t = some (.slice e)) (hs : (P.info? e).map (·.size) = some 1) (A : Option Addr) (n c k : Nat) (z : Int) (hz : z = (k : Int)) (hk : k ≤ c) (W : World) :
    (Instr.slice t (.slice A n c) none (some (.int .i64 z)) none).run P W = .ok (.slice A k c) W := by
  subst hz
  have he : P.elem t = e := by simp [Program.elem, ht]
  rw [run_slice_h (P := P) W t A n c (by rw [he]; exact ht) .i64 (k : Int) (by omega) (by omega), size_of_elem t e ht hs W]
  cases A <;> simp [sliced, Result.andThen, Addr.add]
end Go.Proofs.Ytpnpimhfakfolaa
/-
  Helper words on memory, going on: slices of texts ('RdL'). No statement of the seed is proved here.
-/
namespace Go.Proofs.Ytpnpimhfakfolaa
open Go.RowKit
set_option linter.unusedVariables false

theorem RdB.keptNew {w w' : World} {A : Option Addr} {n c : Nat} {bs : List UInt8} {S : List Nat} (h : RdB w A n c bs) (hk : Kept S w w') (hS : ∀ k, k ∈ S → w.heap.size ≤ k) : RdB w' A n c bs :=
  h.keep fun b _ _ hb => hk.block b hb (fun hm => by have := hS b hm; omega)
/-- A slice of byte slices reads as these texts. -/
structure RdL (w : World) (A : Option Addr) (n c : Nat) (ls : List (List UInt8)) : Prop where
  len : ls.length = n
  cap : n ≤ c
  most : c ≤ maxLen
  cells : 0 < n → ∃ b off, A = some ⟨b, off, none⟩ ∧ b < w.heap.size ∧ ∀ j, (h : j < ls.length) → ∃ Aj nj cj, w.cell? ⟨b, off + j, none⟩ = some (.slice Aj nj cj) ∧ RdB w Aj nj cj ls[j]
theorem RdL.keptNew {w w' : World} {A : Option Addr} {n c : Nat} {ls : List (List UInt8)} {S : List Nat} (h : RdL w A n c ls) (hk : Kept S w w') (hS : ∀ k, k ∈ S → w.heap.size ≤ k) : RdL w' A n c ls :=
  ⟨h.len, h.cap, h.most, fun hn => by
    obtain ⟨b, off, e, hb, hc⟩ := h.cells hn
    refine ⟨b, off, e, Nat.lt_of_lt_of_le hb hk.size, fun j hj => ?_⟩
    obtain ⟨Aj, nj, cj, h1, h2⟩ := hc j hj
    exact ⟨Aj, nj, cj, (hk.cell (p := ⟨b, off + j, none⟩) hb (fun hm => by have := hS b hm; omega)).trans h1, h2.keptNew hk hS⟩⟩
theorem RdL.kept0 {w w' : World} {A : Option Addr} {n c : Nat} {ls : List (List UInt8)} (h : RdL w A n c ls) (hk : Kept [] w w') : RdL w' A n c ls := h.keptNew hk (by simp)
theorem RdL.at_ {w : World} {A : Option Addr} {n c : Nat} {ls : List (List UInt8)} (h : RdL w A n c ls) {k : Nat} (hk : k < n) : ∃ b off Ak nk ck l, A = some ⟨b, off, none⟩ ∧ b < w.heap.size ∧ w.cell? ⟨b, off + k, none⟩ = some (.slice Ak nk ck) ∧ ls[k]? = some l ∧ RdB w Ak nk ck l := by
  obtain ⟨b, off, e, hb, hc⟩ := h.cells (by omega)
  have hl := h.len
  obtain ⟨Ak, nk, ck, h1, h2⟩ := hc k (by omega)
  exact ⟨b, off, Ak, nk, ck, _, e, hb, h1, List.getElem?_eq_getElem (by omega), h2⟩
theorem RdL.nil (w : World) : RdL w none 0 0 [] := ⟨rfl, Nat.le_refl _, by simp [maxLen], fun h => absurd h (by omega)⟩
theorem RdL.one {w : World} {A : Option Addr} {n c : Nat} {bs : List UInt8} (e : TypeId) (h : RdB w A n c bs) : RdL (w.alloc (.cells #[.slice A n c] e)) (some ⟨w.heap.size, 0, none⟩) 1 1 [bs] := by
  refine ⟨rfl, Nat.le_refl _, by simp [maxLen], fun _ => ⟨w.heap.size, 0, rfl, by simp, fun j hj => ?_⟩⟩
  have hj0 : j = 0 := by simpa using hj
  subst hj0
  refine ⟨A, n, c, ?_, h.alloc _⟩
  rw [cell_of_row _ _ _ _ _ _ (heap_alloc_new w _)]
  rfl
theorem RdL.two {w : World} {A1 A2 : Option Addr} {n1 n2 c1 c2 : Nat} {b1 b2 : List UInt8} (e : TypeId) (h1 : RdB w A1 n1 c1 b1) (h2 : RdB w A2 n2 c2 b2) :
    RdL (w.alloc (.cells #[.slice A1 n1 c1, .slice A2 n2 c2] e)) (some ⟨w.heap.size, 0, none⟩) 2 2 [b1, b2] := by
  refine ⟨rfl, Nat.le_refl _, by simp [maxLen], fun _ => ⟨w.heap.size, 0, rfl, by simp, fun j hj => ?_⟩⟩
  have hj3 : j = 0 ∨ j = 1 := by simp at hj; omega
  rcases hj3 with rfl | rfl
  · exact ⟨A1, n1, c1, by rw [cell_of_row _ _ _ _ _ _ (heap_alloc_new w _)]; rfl, h1.alloc _⟩
  · exact ⟨A2, n2, c2, by rw [cell_of_row _ _ _ _ _ _ (heap_alloc_new w _)]; rfl, h2.alloc _⟩
end Go.Proofs.Ytpnpimhfakfolaa
/-
  Lists of texts: cells and what they read as; how they come in. No statement of the seed is proved here.
-/
namespace Go.Proofs.Ytpnpimhfakfolaa
open Go.ChangeShapes Go.WideShapes Go.ChangeAt Go.RowKit
set_option linter.unusedVariables false

/-- A cell that holds a text. -/
def TxtV (w : World) (v : Value) (l : List UInt8) : Prop := ∃ A n c, v = .slice A n c ∧ RdB w A n c l
/-- Cells that hold texts. -/
def TxtVs (w : World) (vs : List Value) (ls : List (List UInt8)) : Prop := vs.length = ls.length ∧ ∀ (j : Nat) (v : Value) (l : List UInt8), vs[j]? = some v → ls[j]? = some l → TxtV w v l
section
variable {w w' : World} {A : Option Addr} {n c : Nat} {vs us : List Value} {ls ms : List (List UInt8)} {S : List Nat}
theorem TxtVs.keptNew (h : TxtVs w vs ls) (hk : Kept S w w') (hS : ∀ k, k ∈ S → w.heap.size ≤ k) : TxtVs w' vs ls :=
  ⟨h.1, fun j v l hv hl => by
    obtain ⟨A, n, c, e, hr⟩ := h.2 j v l hv hl
    exact ⟨A, n, c, e, hr.keptNew hk hS⟩⟩
theorem TxtVs.kept0 (h : TxtVs w vs ls) (hk : Kept [] w w') : TxtVs w' vs ls := h.keptNew hk (by simp)
theorem TxtVs.append (h : TxtVs w vs ls) (k : TxtVs w us ms) : TxtVs w (vs ++ us) (ls ++ ms) :=
  ⟨by rw [List.length_append, List.length_append, h.1, k.1], fun j v l hv hl => by
    rw [List.getElem?_append] at hv hl
    have := h.1
    split at hv
    · rw [if_pos (by omega)] at hl
      exact h.2 j v l hv hl
    · rw [if_neg (by omega), ← this] at hl
      exact k.2 _ v l hv hl⟩
theorem TxtVs.take (h : TxtVs w vs ls) (k : Nat) : TxtVs w (vs.take k) (ls.take k) :=
  ⟨by rw [List.length_take, List.length_take, h.1], fun j v l hv hl => by
    rw [List.getElem?_take] at hv hl
    split at hv
    · rename_i hj
      rw [if_pos hj] at hl
      exact h.2 j v l hv hl
    · cases hv⟩
theorem TxtVs.drop (h : TxtVs w vs ls) (k : Nat) : TxtVs w (vs.drop k) (ls.drop k) :=
  ⟨by rw [List.length_drop, List.length_drop, h.1], fun j v l hv hl => by
    rw [List.getElem?_drop] at hv hl
    exact h.2 _ v l hv hl⟩
theorem TxtVs.one {v : Value} {l : List UInt8} (h : TxtV w v l) : TxtVs w [v] [l] :=
  ⟨rfl, fun j x y hv hl => by
    rcases j with _ | j
    · simp at hv hl
      subst hv hl
      exact h
    · simp at hv⟩
theorem TxtVs.cells (h : TxtVs w vs ls) : ∀ u ∈ vs, u.oneCell' = true := by
  intro u hu
  obtain ⟨j, hj⟩ := List.mem_iff_getElem?.1 hu
  have hl := h.1
  have hjl : j < ls.length := by have := (List.getElem?_eq_some_iff.1 hj).1; omega
  obtain ⟨A, n, c, rfl, _⟩ := h.2 j u _ hj (List.getElem?_eq_getElem hjl)
  rfl
theorem RdL.vals (h : RdL w A n c ls) : ∃ vs, RdV w A n c vs ∧ TxtVs w vs ls := by
  have hl := h.len
  rcases Nat.eq_zero_or_pos n with h0 | h0
  · subst h0
    have : ls = [] := List.eq_nil_of_length_eq_zero hl
    subst this
    exact ⟨[], ⟨rfl, h.cap, h.most, fun hp => absurd hp (by omega)⟩, rfl, fun j v l hv => by simp at hv⟩
  · obtain ⟨b, off, e, hb, hc⟩ := h.cells h0
    obtain ⟨vs, hvl, hv⟩ := list_of (n := n) (R := fun j v => w.cell? ⟨b, off + j, none⟩ = some v ∧ ∀ l, ls[j]? = some l → TxtV w v l) (fun i hi => by
      obtain ⟨Aj, nj, cj, h1, h2⟩ := hc i (by omega)
      refine ⟨.slice Aj nj cj, h1, fun l hl => ⟨Aj, nj, cj, rfl, ?_⟩⟩
      rw [List.getElem?_eq_getElem (by omega)] at hl
      injection hl with hl
      rw [← hl]; exact h2)
    refine ⟨vs, ⟨hvl, h.cap, h.most, fun _ => ⟨b, off, e, fun j hj => (hv j hj).1⟩⟩, by omega, fun j v l h1 h2 => ?_⟩
    obtain ⟨hj, rfl⟩ := List.getElem?_eq_some_iff.1 h1
    exact (hv j hj).2 l h2
theorem RdL.of_vals (h : RdV w A n c vs) (ht : TxtVs w vs ls) : RdL w A n c ls := by
  have hl := h.len
  have h2 := ht.1
  refine ⟨by omega, h.cap, h.most, fun hp => ?_⟩
  obtain ⟨b, off, e, hb, hc⟩ := h.at_ hp
  refine ⟨b, off, e, hb, fun j hj => ?_⟩
  obtain ⟨Aj, nj, cj, e1, hr⟩ := ht.2 j vs[j] ls[j] (List.getElem?_eq_getElem (by omega)) (List.getElem?_eq_getElem hj)
  exact ⟨Aj, nj, cj, by rw [hc j (by omega), e1], hr⟩
end

theorem rdl_of_trod {H : Type} {enc : TypeId × Value → H} {W : World} {base b0 : Nat} {sp : Nat → Bool} {held : Bool} {r : Reach} {v : Value} {d : DataW H} {p : List MemPlace}
    (hv : Value.okWide Try.prog W r b0 24 v) (h : DataW.Trod enc Try.prog W base sp held 24 v d p) : ∃ A n c ls, v = .slice A n c ∧ RdL W A n c ls := by
  obtain ⟨A0, n0, c0, rfl⟩ := okWide_slice Try.underlying24 hv
  have hC : Try.prog.cellsOf 38 = 1 := by kernel_rfl
  have hC5 : Try.prog.cellsOf 5 = 1 := by kernel_rfl
  obtain ⟨fuel, hf⟩ := h
  obtain ⟨A, len, cap, hcs, hl, hm, hall⟩ := slice_elems Try.underlying24 (by omega) hf
  simp [Value.cells] at hcs
  obtain ⟨rfl, rfl, rfl⟩ := hcs
  rcases Nat.eq_zero_or_pos n0 with h0 | h0
  · subst h0
    exact ⟨A0, 0, c0, [], rfl, rfl, hl, hm, fun hp => absurd hp (by omega)⟩
  · obtain ⟨b, off, rfl, hel⟩ := hall h0
    rw [hC] at hel
    obtain ⟨ls, hll, hR⟩ := list_of (n := n0) (R := fun i l => ∃ Aj nj cj, W.cell? ⟨b, off + i, none⟩ = some (.slice Aj nj cj) ∧ RdB W Aj nj cj l) (fun i hi => by
      obtain ⟨cs, m, z, hcl, hcell, htr⟩ := hel i hi
      obtain ⟨Aj, nj, cj, bs, hcs, hrb⟩ := leaf_bytes Try.underlying38 Try.underlying5 hC5 htr
      subst hcs
      have h1 := hcell 0 (by omega)
      rw [Nat.mul_one, Nat.add_zero] at h1
      exact ⟨bs, Aj, nj, cj, h1, hrb⟩)
    obtain ⟨Aj, nj, cj, h1, _⟩ := hR 0 (by omega)
    exact ⟨_, n0, c0, ls, rfl, hll, hl, hm, fun _ => ⟨b, off, rfl, World.block_lt_of_cell? W _ h1, fun j hj => hR j hj⟩⟩
end Go.Proofs.Ytpnpimhfakfolaa
/-
  Lists of texts, going on: rows that grow beside the texts that they hold. No statement of the seed is proved here.
-/
namespace Go.Proofs.Ytpnpimhfakfolaa
open Go.RowKit
set_option linter.unusedVariables false

/-- Cells that are texts, none of them in the row u. -/
def TxtO (w : World) (u : Value) (vs : List Value) (ls : List (List UInt8)) : Prop :=
  vs.length = ls.length ∧ ∀ (j : Nat) (v : Value) (l : List UInt8), vs[j]? = some v → ls[j]? = some l → ∃ A n c, v = .slice A n c ∧ RdB w A n c l ∧ (0 < n → ∀ g, u.ownBlock = some g → ∀ a, A = some a → a.block ≠ g)
theorem TxtO.nil (w : World) (u : Value) : TxtO w u [] [] := ⟨rfl, fun j v l h => by simp at h⟩
theorem TxtO.txt {w : World} {u : Value} {vs : List Value} {ls : List (List UInt8)} (h : TxtO w u vs ls) : TxtVs w vs ls :=
  ⟨h.1, fun j v l h1 h2 => by obtain ⟨A, n, c, e, hr, _⟩ := h.2 j v l h1 h2; exact ⟨A, n, c, e, hr⟩⟩
theorem TxtO.kept0 {w w' : World} {u : Value} {vs : List Value} {ls : List (List UInt8)} (h : TxtO w u vs ls) (hk : Kept [] w w') : TxtO w' u vs ls :=
  ⟨h.1, fun j v l h1 h2 => by obtain ⟨A, n, c, e, hr, ho⟩ := h.2 j v l h1 h2; exact ⟨A, n, c, e, hr.kept0 hk, ho⟩⟩
theorem TxtO.app {W W' : World} {u u' : Value} {vs : List Value} {ls : List (List UInt8)} (h : TxtO W u vs ls) (hk : Kept u.ownBlock.toList W W') (hm : Moved W u u') : TxtO W' u' vs ls := by
  refine ⟨h.1, fun j v l h1 h2 => ?_⟩
  obtain ⟨A, n, c, e, hr, ho⟩ := h.2 j v l h1 h2
  refine ⟨A, n, c, e, hr.keptIf hk (fun hn a ha hin => ho hn _ (by simpa using hin) a ha rfl), fun hn g hg a ha => ?_⟩
  rcases hm g hg with h3 | h3
  · exact ho hn g h3 a ha
  · obtain ⟨b, off, e2, hb, _⟩ := hr.at_ hn
    rw [e2] at ha
    injection ha with ha
    subst ha
    show b ≠ g
    omega
theorem TxtO.append {w : World} {u : Value} {vs us : List Value} {ls ms : List (List UInt8)} (h : TxtO w u vs ls) (k : TxtO w u us ms) : TxtO w u (vs ++ us) (ls ++ ms) := by
  refine ⟨by rw [List.length_append, List.length_append, h.1, k.1], fun j v l h1 h2 => ?_⟩
  by_cases hj : j < vs.length
  · rw [List.getElem?_append_left hj] at h1
    rw [List.getElem?_append_left (by rw [← h.1]; exact hj)] at h2
    exact h.2 j v l h1 h2
  · rw [List.getElem?_append_right (by omega)] at h1
    rw [List.getElem?_append_right (by rw [← h.1]; omega), ← h.1] at h2
    exact k.2 _ v l h1 h2
theorem TxtO.two {w : World} {u : Value} {A1 A2 : Option Addr} {n1 n2 c1 c2 : Nat} {b1 b2 : List UInt8} (h1 : RdB w A1 n1 c1 b1) (h2 : RdB w A2 n2 c2 b2)
    (o1 : 0 < n1 → ∀ g, u.ownBlock = some g → ∀ a, A1 = some a → a.block ≠ g) (o2 : 0 < n2 → ∀ g, u.ownBlock = some g → ∀ a, A2 = some a → a.block ≠ g) : TxtO w u [.slice A1 n1 c1, .slice A2 n2 c2] [b1, b2] := by
  refine ⟨rfl, fun j v l e1 e2 => ?_⟩
  match j, e1, e2 with
  | 0, e1, e2 =>
    simp at e1 e2
    subst e1 e2
    exact ⟨A1, n1, c1, rfl, h1, o1⟩
  | 1, e1, e2 =>
    simp at e1 e2
    subst e1 e2
    exact ⟨A2, n2, c2, rfl, h2, o2⟩
  | j + 2, e1, e2 => simp at e1
end Go.Proofs.Ytpnpimhfakfolaa
/-
  Slices of texts that are cut. No statement of the seed is proved here.
-/
namespace Go.Proofs.Ytpnpimhfakfolaa
open Go.RowKit
set_option linter.unusedVariables false

/-- One text of a slice of texts, cut out. -/
theorem RdL.cutOne {P : Program} {w : World} {A : Option Addr} {n c : Nat} {ls : List (List UInt8)} (h : RdL w A n c ls) (t e : TypeId) (ht : P.underlying t = some (.slice e)) (hs : (P.info? e).map (·.size) = some 1) (k : Nat) (l : List UInt8) (y z : Int) (hy : y = (k : Int)) (hz : z = ((k + 1 : Nat) : Int)) (hk : k < n) (hl : ls[k]? = some l) :
    ∃ A', RdL w A' 1 (c - k) [l] ∧ ∀ W, (Instr.slice t (.slice A n c) (some (.int .i64 y)) (some (.int .i64 z)) none).run P W = .ok (.slice A' 1 (c - k)) W := by
  subst hy hz
  have hcap := h.cap
  have hmost := h.most
  have hlen := h.len
  refine ⟨if c = k then A else A.map (·.add k), ⟨rfl, by omega, by omega, fun _ => ?_⟩, fun W => ?_⟩
  · obtain ⟨b, off, rfl, hb, hc⟩ := h.cells (by omega)
    rw [if_neg (by omega)]
    have h2 : (⟨b, off, none⟩ : Addr).add k = ⟨b, off + k, none⟩ := by unfold Addr.add; split <;> simp_all
    refine ⟨b, off + k, by simp [h2], hb, fun j hj => ?_⟩
    have hj0 : j = 0 := by simpa using hj
    subst hj0
    obtain ⟨Aj, nj, cj, h3, h4⟩ := hc k (by omega)
    have : ls[k]'(by omega) = l := by
      rw [List.getElem?_eq_getElem (by omega)] at hl
      injection hl
    rw [this] at h4
    exact ⟨Aj, nj, cj, h3, h4⟩
  · have he : P.elem t = e := by simp [Program.elem, ht]
    rw [run_slice_lh (P := P) W t A n c (by rw [he]; exact ht) .i64 .i64 (k : Int) ((k + 1 : Nat) : Int) (by omega) (by omega) (by omega), size_of_elem t e ht hs W]
    simp [sliced, Result.andThen]
/-- Its first texts. -/
theorem RdL.first {w : World} {A : Option Addr} {n c : Nat} {ls : List (List UInt8)} (h : RdL w A n c ls) (k : Nat) (hk : k ≤ n) : RdL w A k c (ls.take k) := by
  have hl := h.len
  have hc := h.cap
  refine ⟨by rw [List.length_take]; omega, by omega, h.most, fun hp => ?_⟩
  obtain ⟨b, off, e, hb, hcell⟩ := h.cells (by omega)
  refine ⟨b, off, e, hb, fun j hj => ?_⟩
  rw [List.length_take] at hj
  rw [List.getElem_take]
  exact hcell j (by omega)
end Go.Proofs.Ytpnpimhfakfolaa
/-
  append of a slice of another named type of the same elements. Nothing of the program here.
-/
namespace Go.Proofs.Ytpnpimhfakfolaa
open Go Go.RowKit
set_option linter.unusedVariables false
section
variable {P : Program} {w : World}
theorem run_append_types (t u ty e : TypeId) (ht : P.underlying t = some (.slice e)) (hu : P.underlying u = some (.slice e)) (B : Option Addr) (n d : Nat) (A : Option Addr) (m c : Nat) (w : World) :
    (Builtin.append_ #[t, u] ty #[.slice B n d, .slice A m c]).run P w = (Builtin.append_ #[t, t] ty #[.slice B n d, .slice A m c]).run P w := by
  unfold Builtin.append_
  simp [run_underlying ht, run_underlying hu]
theorem wpList_append_two {ops : Array Oper} {rest : List Oper} {o : Oper} {a : Act} {Q : Exit → Act → World → Prop} (hgd : o.guard = none) (s x : Operand) (t u : TypeId)
    (ho : o.op = .call { callee := .builtin .append, args := #[s, x], argTypes := #[t, u] })
    (e : TypeId) (i : TypeInfo) (z : Value) (bytes : Nat) (ht : P.underlying t = some (.slice e)) (hu : P.underlying u = some (.slice e)) (hi : P.info? e = some i) (hz : i.zero = some z)
    (hsize : i.size = 1) (hby : i.bytes = bytes) (hzs : z.cells.size = 1)
    (v : Value) (xs : List Value) (hs : a.eval s = v) (hown : OwV e w v xs)
    (A : Option Addr) (m c : Nat) (news : List Value) (hx : a.eval x = .slice A m c) (hr : RdV w A m c news) (h1 : ∀ u ∈ news, u.oneCell' = true)
    (h63 : xs.length + m ≤ maxLen) (hbytes : (xs.length + m) * bytes ≤ 140737488355328)
    (h : ∀ v' w', OwV e w' v' (xs ++ news) → Kept v.ownBlock.toList w w' → Moved w v v' → wpList P ops Q rest (a.put o.dst v') w') : wpList P ops Q (o :: rest) a w := by
  refine wpList_plain hgd fun K hK => ?_
  obtain ⟨v', w', hrun, h2, h3, h4⟩ := run_append_vals (P := P) (w := w) t o.type e i z bytes ht hi hz hsize hby hzs hown hr h1 h63 hbytes
  obtain ⟨B, n, d, rfl, _, _⟩ := hown.form
  rw [← run_append_types t u o.type e ht hu] at hrun
  unfold Oper.wp execOp
  simp only [ho, resolve, invoke, builtin, Sem.run_bind, Sem.run_pure, Result.andThen_ok, List.map_toArray, List.map_cons, List.map_nil, hs, hx, hrun]
  exact hK _ _ (h v' w' h2 h3 h4)
end
end Go.Proofs.Ytpnpimhfakfolaa
/-
  Contract of the comparison of bytes. No statement of the seed is proved here.
-/
namespace Go.Proofs.Ytpnpimhfakfolaa
open Go.RowKit
set_option linter.unusedVariables false

theorem same_yes (A A' : Option Addr) (n c c' : Nat) (bs : List UInt8) (w : World) (ha : RdB w A n c bs) (hb : RdB w A' n c' bs) :
    Calls Try.prog 19 #[.slice A n c, .slice A' n c'] w fun e w' => e = .returned (.bool true) ∧ ∃ m, w' = w.drewN m := by
  have hm := ha.cap
  have hm2 := ha.most
  unfold maxLen at hm2
  go_enter Try.func19, Try.ntmps19
  go_wp2
  go_loopw [5] (fun i wr => ∃ (k m : Nat), k ≤ n ∧ i = .int .i64 k ∧ wr = w.drewN m) (fun i _ => n - (intOf i).toNat)
  case atStart => exact ⟨0, 0, by omega, rfl, rfl⟩
  case round =>
    obtain ⟨k, m, hk, rfl, rfl⟩ := hrel
    by_cases hlt : k < n
    · have hl := ha.len
      obtain ⟨b, off, rfl, hbl, hc⟩ := ha.at_ (by omega)
      obtain ⟨b', off', rfl, hbl', hc'⟩ := hb.at_ (by omega)
      have c1 := hc k (by omega)
      have c2 := hc' k (by omega)
      generalize bs[k] = x at c1 c2
      have H := Lib.hid hl
      clear hl hc hc'
      unfold bcell at c1 c2
      go_wp2
      go_quiet (fail)
      go_wp2
      go_roundw
      case rel => exact ⟨k + 1, m + nq, by omega, by go_num, rfl⟩
      case measure => simp [intOf]; omega
    · go_wp2
      go_ret
      exact ⟨rfl, m, rfl⟩
end Go.Proofs.Ytpnpimhfakfolaa
/-
  Contract of a function of Go's library: a copy of a byte slice. No statement of the seed is proved here.
-/
namespace Go.Proofs.Ytpnpimhfakfolaa
open Go.RowKit
set_option linter.unusedVariables false

theorem clone_any (A : Option Addr) (n c : Nat) (bs : List UInt8) (w : World) (hr : RdB w A n c bs) (hn : n ≤ 140737488355328) :
    Calls Try.prog 33 #[.slice A n c] w (CloneRet bs w) := by
  obtain ⟨i0, hi, hz0, hz1, hz2⟩ := info_parts u8info
  rcases A with _ | a
  · have hb : bs = [] := by
      have hl := hr.len
      rcases Nat.eq_zero_or_pos n with h0 | h0
      · exact List.eq_nil_of_length_eq_zero (by omega)
      · obtain ⟨b, off, e, _⟩ := hr.cells h0
        cases e
    subst hb
    have hnil := @Lib.run_eql_slice_nil Try.prog
    go_enter Try.func33, Try.ntmps33
    go_wp2
    go_ret
    exact ⟨_, rfl, OwB.nil _ _, Kept.refl _ _, by simp [Value.ownBlock]⟩
  · have hnil := @Lib.run_eql_slice_nil Try.prog
    have hown : OwB 5 (w.alloc (.cells #[] 5)) (.slice (some ⟨w.heap.size, 0, none⟩) 0 0) [] := by
      have := World.ownsRow_lit (base := 0) (e := 5) (size := 1) w #[] 0 (Nat.zero_le _) (by simp [maxLen]) rfl
      simpa [OwB, bvs] using this
    go_enter Try.func33, Try.ntmps33
    go_wp2_with (at_builtin; refine wpList_append_bytes rfl (.tmp 5) (.tmp 6) 38 rfl 5 i0 _ 1 Try.underlying38 hi hz0 hz1 hz2 rfl (.slice (some ⟨w.heap.size, 0, none⟩) 0 0) [] rfl hown (some a) n c bs rfl (hr.alloc _) (by simp only [maxLen, List.length_nil]; omega) (by simp only [List.length_nil]; omega) ?_; intro v1 w1 hown1 hk1 hm1)
    go_ret
    refine ⟨_, rfl, by simpa using hown1, ?_, ?_⟩
    · exact ((Kept.refl [] w).alloc _).trans hk1 (by simp [Value.ownBlock])
    · intro g hg
      rcases hm1 g hg with h | h
      · simp [Value.ownBlock] at h; omega
      · simp at h; omega
end Go.Proofs.Ytpnpimhfakfolaa
/-
  Plain mathematics: one list that overwrites another from its head on. Nothing of the program here.
-/
namespace Go.Proofs.Ytpnpimhfakfolaa
set_option linter.unusedVariables false

/-! ### overwriting, from the head on -/
/-- The first n of one list, the rest of another. -/
def ovr {α : Type} (A B : List α) (n : Nat) : List α := A.take n ++ B.drop n
section
variable {α : Type} {A B : List α} {n j : Nat}
theorem ovr_zero (A B : List α) : ovr A B 0 = B := by simp [ovr]
theorem ovr_all (h : A.length = B.length) (hn : B.length ≤ n) : ovr A B n = A := by
  unfold ovr; rw [List.drop_of_length_le hn, List.append_nil, List.take_of_length_le (by omega)]
theorem ovr_length (h : A.length = B.length) : (ovr A B n).length = B.length := by simp [ovr]; omega
theorem ovr_lt (hj : j < n) (h : j < A.length) : (ovr A B n)[j]? = A[j]? := by
  unfold ovr
  rw [List.getElem?_append_left (by rw [List.length_take]; omega), List.getElem?_take, if_pos hj]
theorem ovr_ge (h : A.length = B.length) (hj : n ≤ j) (hn : n ≤ B.length) : (ovr A B n)[j]? = B[j]? := by
  unfold ovr
  rw [List.getElem?_append_right (by rw [List.length_take]; omega), List.length_take, List.getElem?_drop]
  congr 1; omega
theorem ovr_set (h : A.length = B.length) (hn : n < B.length) {v : α} (hv : A[n]? = some v) : (ovr A B n).set n v = ovr A B (n + 1) := by
  unfold ovr
  have e1 : (A.take n).length = n := by rw [List.length_take]; omega
  rw [List.set_append_right _ _ (by omega), e1, Nat.sub_self, List.drop_eq_getElem_cons hn, List.set_cons_zero, take_step A n v hv, List.append_assoc]
  rfl
end
end Go.Proofs.Ytpnpimhfakfolaa
