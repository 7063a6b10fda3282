/-
  The walks of three laws of layer 13: frames are put, got, and got of an object and an index, as the document says. No statement of the seed is proved here.
-/
import Derived.Test.YtibcjbelcplpjaaDoorLaw13p
import Derived.Test.YtibcjbelcplpjaaDoorLaw13o
import Derived.Test.YtibcjbelcplpjaaDoorLaw13g
import Derived.Test.YtibcjbelcplpjaaDoorFpd
import Derived.Test.YtibcjbelcplpjaaDoorFpe
namespace Go.Proofs.YtibcjbelcplpjaaDoor
open Go.RowKit
set_option linter.unusedVariables false

def GlobF (w : World) : Prop := Glob w ∧ GlobI w
theorem frHas : FrHas GlobF where
  kept := fun h hk => ⟨h.1.kept0 hk, h.2.kept0 hk⟩
  right := fun f A n c w h _ => fRi_any f A n c w h
  put := fun key f A n c w hkl h _ hg => fPt_any key f A n c w hkl h hg.1
  get := fun key A n c b w hkl hr hn hg => fGt_any key b A n c w hkl hr hn hg.1
  of_ := fun key o z A n c b w hkl ho _ _ hr hn hg => fOf_any key o z A n c b w hkl ho hr hn hg.1
theorem nameHasF : NameHas GlobF where
  kept := fun h hk => ⟨h.1.kept0 hk, h.2.kept0 hk⟩
  name := fun o z w ho h0 h1 hg => fNam_any o z w ho h0 h1 hg.2
theorem framePuts_walk (key : List UInt8) (f : Fr) (A : Option Addr) (n c : Nat) (w : World) (hgl : GlobF w) (hkl : key.length = 32) (h : FrAt w f A n c) :
    Calls Tryd.prog 3 #[.agg (bvs key).toArray, .agg (frc f A n c).toArray] w fun e w' => e = .returned (.bool true) ∧ Kept [] w w' := puts13_walk frHas nameHasF key f A n c w hgl hkl h
theorem frameGets_walk (key : List UInt8) (A : Option Addr) (n c : Nat) (b : List UInt8) (w : World) (hgl : GlobF w) (hkl : key.length = 32) (hr : RdB w A n c b) :
    Calls Tryd.prog 4 #[.agg (bvs key).toArray, .slice A n c] w fun e w' => e = .returned (.bool true) ∧ Kept [] w w' := gets13_walk frHas nameHasF key A n c b w hgl hkl hr
theorem frameOf_walk (key : List UInt8) (f : Fr) (A : Option Addr) (n c : Nat) (z : Int) (w : World) (hgl : GlobF w) (hkl : key.length = 32) (h : FrAt w f A n c) (hz : (Lit.int .i64 z).wf = true) :
    Calls Tryd.prog 5 #[.agg (bvs key).toArray, .agg (frc f A n c).toArray, .int .i64 z] w fun e w' => e = .returned (.bool true) ∧ Kept [] w w' := of13_walk frHas nameHasF key f A n c z w hz hgl hkl h
end Go.Proofs.YtibcjbelcplpjaaDoor
