/-
  Contracts of the writer's functions of layer 1 (bin), over this seat's program. No statement of the seed is proved here.
-/
import Derived.Test.YtibcjbelcplpjaaDoorChecked
import Derived.Test.YtibcjbelcplpjaaDoorPd
import Derived.Outline
namespace Go.Proofs.YtibcjbelcplpjaaDoor
open Go.RowKit
set_option linter.unusedVariables false


/-- At block p lies a writer that has put bs; F: the blocks that it may turn. -/
def Wri (w : World) (p : Nat) (F : List Nat) (bs : List UInt8) : Prop :=
  ∃ v, w.heap[p]? = some (.cells #[v] 67 (0, 0)) ∧ OwB 5 w v bs ∧ F = p :: v.ownBlock.toList

theorem Wri.foot {w : World} {p : Nat} {F : List Nat} {bs : List UInt8} (h : Wri w p F bs) : ∀ k, k ∈ F → k < w.heap.size := by
  obtain ⟨v, hp, ho, rfl⟩ := h
  obtain ⟨_, _, _, _, _, hl⟩ := ho.form
  intro k hk
  simp only [List.mem_cons, Option.mem_toList] at hk
  rcases hk with rfl | hk
  · exact (Array.getElem?_eq_some_iff.1 hp).1
  · exact hl k hk
theorem Wri.kept {w w' : World} {p : Nat} {F S : List Nat} {bs : List UInt8} (h : Wri w p F bs) (hk : Kept S w w') (hS : ∀ k, k ∈ F → k ∉ S) : Wri w' p F bs := by
  obtain ⟨v, hp, ho, rfl⟩ := h
  exact ⟨v, (hk.block p (Array.getElem?_eq_some_iff.1 hp).1 (hS p (by simp))).trans hp, ho.kept hk (fun g hg => hS g (by simp [hg])), rfl⟩
theorem Wri.kept0 {w w' : World} {p : Nat} {F : List Nat} {bs : List UInt8} (h : Wri w p F bs) (hk : Kept [] w w') : Wri w' p F bs := h.kept hk (by simp)
theorem Wri.alloc {w : World} {p : Nat} {F : List Nat} {bs : List UInt8} (h : Wri w p F bs) (o : Obj) : Wri (w.alloc o) p F bs := h.kept0 ((Kept.refl [] w).alloc o)
theorem Wri.new (w : World) : Wri (w.alloc (.cells #[.slice none 0 0] 67)) w.heap.size [w.heap.size] [] := ⟨_, heap_alloc_new w _, OwB.nil _ _, rfl⟩

/-- The writer has put news behind xs, turned its own blocks alone, and has these or new ones. -/
structure Puts (p : Nat) (F : List Nat) (xs news : List UInt8) (w w' : World) (F' : List Nat) : Prop where
  wri : Wri w' p F' (xs ++ news)
  kept : Kept F w w'
  foot : ∀ k, k ∈ F' → k ∈ F ∨ w.heap.size ≤ k
theorem Puts.refl {w : World} {p : Nat} {F : List Nat} {xs : List UInt8} (h : Wri w p F xs) : Puts p F xs [] w w F := ⟨by simpa using h, Kept.refl _ _, fun _ h => .inl h⟩
theorem Puts.since {a w w' : World} {p : Nat} {F F' : List Nat} {xs news : List UInt8} (h : Puts p F xs news w w' F') (hk : Kept [] a w) : Puts p F xs news a w' F' :=
  ⟨h.wri, (hk.mono (by simp)).trans h.kept (fun _ h => .inl h), fun k hm => by
    rcases h.foot k hm with g | g
    · exact .inl g
    · exact .inr (Nat.le_trans hk.size g)⟩
theorem Puts.alloc {w w' : World} {p : Nat} {F F' : List Nat} {xs news : List UInt8} {o : Obj} (h : Puts p F xs news (w.alloc o) w' F') : Puts p F xs news w w' F' := h.since ((Kept.refl [] w).alloc o)
theorem Puts.upon {w w1 w' : World} {p : Nat} {F F' : List Nat} {xs news : List UInt8} (h : Puts p F xs news w w1 F') (hk : Kept [] w1 w') : Puts p F xs news w w' F' := ⟨h.wri.kept0 hk, h.kept.andThen hk, h.foot⟩
theorem Puts.trans {w w1 w2 : World} {p : Nat} {F F1 F2 : List Nat} {xs a b : List UInt8} (h : Puts p F xs a w w1 F1) (k : Puts p F1 (xs ++ a) b w1 w2 F2) : Puts p F xs (a ++ b) w w2 F2 :=
  ⟨by rw [← List.append_assoc]; exact k.wri, h.kept.trans k.kept h.foot, fun i hi => by
    rcases k.foot i hi with g | g
    · exact h.foot i g
    · exact .inr (Nat.le_trans h.kept.size g)⟩
/-- What a call that puts bytes leaves. -/
def PutRet (p : Nat) (F : List Nat) (xs news : List UInt8) (w : World) (v : Value) (e : Ending) (w' : World) : Prop := e = .returned v ∧ ∃ F', Puts p F xs news w w' F'

/-- Two blocks of unlike types are two. -/
theorem own_ne {w : World} {e t : TypeId} {v : Value} {bs : List UInt8} {p : Nat} {cs : Array Value} (h : OwB e w v bs) (hp : w.heap[p]? = some (.cells cs t (0, 0))) (hne : e ≠ t) : p ∉ v.ownBlock.toList := by
  rcases h.2 with ⟨rfl, _⟩ | ⟨g, cap, cur, rfl, _, hg, _⟩
  · simp [Value.ownBlock]
  · simp only [Value.ownBlock, Option.toList_some, List.mem_singleton]
    rintro rfl
    rw [hp] at hg
    injection hg with hg
    injection hg with _ h2
    exact hne h2.symm

theorem put_any (p : Nat) (F : List Nat) (xs : List UInt8) (A : Option Addr) (m c : Nat) (news : List UInt8) (w : World) (hw : Wri w p F xs) (hr : RdB w A m c news) (hb : xs.length + m ≤ 140737488355328) :
    Calls Tryd.prog 58 #[.pointer (some ⟨p, 0, none⟩), .slice A m c] w (PutRet p F xs news w (.tuple #[])) := by
  obtain ⟨i0, hi, hz0, hz1, hz2⟩ := info_parts u8info
  obtain ⟨v, hp, hown, rfl⟩ := hw
  have hc : w.cell? ⟨p, 0, none⟩ = some v := by rw [cell_of_row w p 0 _ _ _ hp]; rfl
  have hlt : p < w.heap.size := (Array.getElem?_eq_some_iff.1 hp).1
  obtain ⟨A0, n0, c0, rfl, hrd, hbl⟩ := hown.form
  go_enter Tryd.func58, Tryd.ntmps58
  go_wp2_with (at_builtin; refine wpList_append_bytes rfl (.tmp 8) (.tmp 9) 26 rfl 5 i0 _ 1 Tryd.underlying26 hi hz0 hz1 hz2 rfl (.slice A0 n0 c0) xs rfl hown A m c news rfl hr (by simp only [maxLen]; omega) (by omega) ?_; intro v1 w1 hown1 hk1 hm1; obtain ⟨A1, n1, c1, rfl, hrd1, hbl1⟩ := hown1.form; have hne : p ∉ (Value.slice A0 n0 c0).ownBlock.toList := (own_ne hown hp (by decide)); have hp1 := (hk1.block p hlt hne).trans hp; have hc1 : w1.cell? ⟨p, 0, none⟩ = some (.slice A0 n0 c0) := (by rw [cell_of_row w1 p 0 _ _ _ hp1]; rfl); have hf1 : w1.frozen? ⟨p, 0, none⟩ = false := frozen_of_row w1 p 0 _ _ hp1)
  go_end0
  have hp2 : (w1.setCell ⟨p, 0, none⟩ (.slice A1 n1 c1)).heap[p]? = some (.cells #[.slice A1 n1 c1] 67 (0, 0)) := by
    rw [heap_setCell_same w1 p 0 _ _ _ hp1]; rfl
  refine ⟨rfl, _, ⟨⟨_, hp2, hown1.keep fun g hg _ => ?_, rfl⟩, ?_, ?_⟩⟩
  · refine heap_setCell_other w1 ⟨p, 0, none⟩ g _ ?_
    rintro rfl
    exact own_ne hown1 hp1 (by decide) (by simpa using hg)
  · refine (hk1.mono ?_).setCell (by simp) _
    intro i h; exact .inl (List.mem_cons_of_mem _ h)
  · intro k hk
    simp only [List.mem_cons, Option.mem_toList] at hk ⊢
    rcases hk with rfl | hk
    · exact .inl (.inl rfl)
    · rcases hm1 k hk with h | h
      · exact .inl (.inr h)
      · exact .inr h
end Go.Proofs.YtibcjbelcplpjaaDoor
