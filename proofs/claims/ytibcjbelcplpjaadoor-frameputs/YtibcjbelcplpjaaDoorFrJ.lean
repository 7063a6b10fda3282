/-
  What layer 13's laws ask of frames: the contracts that the program's own functions keep, where G holds (the tables lie as laid). No statement of the seed is proved here.
-/
import Derived.Test.YtibcjbelcplpjaaDoorPe
import Derived.Test.YtibcjbelcplpjaaDoorFrS
namespace Go.Proofs.YtibcjbelcplpjaaDoor
open Go.RowKit
set_option linter.unusedVariables false

@[irreducible] def frOf (key o : List UInt8) (z : Int) (b : List UInt8) : Fr × Nat :=
  if (frGet key b).2 ≠ 0 then (fr0, (frGet key b).2) else if (frGet key b).1.obj ≠ o ∨ (frGet key b).1.idx ≠ z then (fr0, 11) else ((frGet key b).1, 0)
theorem frOf_put {key o : List UInt8} {z : Int} {f : Fr} (h : frRight f = true) (ho : f.obj.length = 16) : frOf key o z (frPut key f).1 = if f.obj ≠ o ∨ f.idx ≠ z then (fr0, 11) else (f, 0) := by
  unfold frOf
  rw [frGet_put h ho]
  simp only
  rw [if_neg (by simp)]
structure FrHas (G : World → Prop) : Prop where
  kept : ∀ {w w' : World}, G w → Kept [] w w' → G w'
  right : ∀ (f : Fr) (A : Option Addr) (n c : Nat) (w : World), FrAt w f A n c → n ≤ 100000 → Calls Tryd.prog 13 #[.agg (frc f A n c).toArray] w fun e w' => e = .returned (.bool (frRight f)) ∧ Kept [] w w'
  put : ∀ (key : List UInt8) (f : Fr) (A : Option Addr) (n c : Nat) (w : World), key.length = 32 → FrAt w f A n c → n ≤ 100000 → G w → Calls Tryd.prog 9 #[.agg (bvs key).toArray, .agg (frc f A n c).toArray] w (RefRet (frPut key f).1 (frPut key f).2 w)
  get : ∀ (key : List UInt8) (A : Option Addr) (n c : Nat) (b : List UInt8) (w : World), key.length = 32 → RdB w A n c b → n ≤ 100000 → G w → Calls Tryd.prog 15 #[.agg (bvs key).toArray, .slice A n c] w (FrRet (frGet key b).1 (frGet key b).2 w)
  of_ : ∀ (key o : List UInt8) (z : Int) (A : Option Addr) (n c : Nat) (b : List UInt8) (w : World), key.length = 32 → o.length = 16 → -9223372036854775808 ≤ z → z ≤ 9223372036854775807 → RdB w A n c b → n ≤ 100000 → G w →
    Calls Tryd.prog 17 #[.agg (bvs key).toArray, .agg (bvs o).toArray, .int .i64 z, .slice A n c] w (FrRet (frOf key o z b).1 (frOf key o z b).2 w)
theorem frPut_len {key : List UInt8} {f : Fr} (ho : f.obj.length = 16) : (frPut key f).1.length ≤ 1200 := by
  cases h : frRight f with
  | false => rw [frPut_no h]; simp
  | true =>
    rw [frPut_ok h, List.length_append, frPlain_length ho, hTag_length]
    have := (frRight_facts h).2.2.2
    have hf : fol f.piece.length ≤ 8 := by unfold fol; split; omega; exact (wid_pos _).2
    omega
end Go.Proofs.YtibcjbelcplpjaaDoor
