/-
  The walk of a law of layer 13: names are what the document says; unlike objects or indices have unlike names. No statement of the seed is proved here.
-/
import Derived.Test.YtibcjbelcplpjaaDoorLaw13n
import Derived.Test.YtibcjbelcplpjaaDoorFpe
namespace Go.Proofs.YtibcjbelcplpjaaDoor
open Go.RowKit
set_option linter.unusedVariables false

theorem nameHas : NameHas GlobI where
  kept := fun h hk => h.kept0 hk
  name := fun o z w ho h0 h1 hg => fNam_any o z w ho h0 h1 hg
theorem frameNames_walk (a b : List UInt8) (x y : Int) (w : World) (hgl : GlobI w) (ha : a.length = 16) (hb : b.length = 16) (hx : (Lit.int .i64 x).wf = true) (hy : (Lit.int .i64 y).wf = true) :
    Calls Tryd.prog 6 #[.agg (bvs a).toArray, .agg (bvs b).toArray, .agg #[.int .i64 x, .int .i64 y]] w fun e w' => e = .returned (.bool true) ∧ Kept [] w w' :=
  names13_walk nameHas a b x y w hgl ha hb (bounds_i64 hx).1 (bounds_i64 hx).2 (bounds_i64 hy).1 (bounds_i64 hy).2
end Go.Proofs.YtibcjbelcplpjaaDoor
