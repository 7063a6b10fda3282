/-
  What layer 13's laws ask of names: the contract that the program's own Name keeps. No statement of the seed is proved here.
-/
import Derived.Test.YtibcjbelcplpjaaDoorFnR
namespace Go.Proofs.YtibcjbelcplpjaaDoor
open Go.RowKit
set_option linter.unusedVariables false

structure NameHas (G : World → Prop) : Prop where
  kept : ∀ {w w' : World}, G w → Kept [] w w' → G w'
  name : ∀ (o : List UInt8) (z : Int) (w : World), o.length = 16 → -9223372036854775808 ≤ z → z ≤ 9223372036854775807 → G w → Calls Tryd.prog 18 #[.agg (bvs o).toArray, .int .i64 z] w (StrRet (nameL o z) w)
end Go.Proofs.YtibcjbelcplpjaaDoor
