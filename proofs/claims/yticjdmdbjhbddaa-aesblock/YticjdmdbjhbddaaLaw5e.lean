/-
  The walk of a law of layer 5: any key encrypts any block as the document says, each time alike. No statement of the seed is proved here.
-/
import Derived.Test.YticjdmdbjhbddaaLaw5d
import Derived.Test.YticjdmdbjhbddaaRa3
namespace Go.Proofs.Yticjdmdbjhbddaa
theorem aesblock_walk (key x : List UInt8) (w : World) (hkl : key.length = 32) (hxl : x.length = 16) :
    Calls Try.prog 3 #[.agg (bvs key).toArray, .agg (bvs x).toArray] w fun e w' => e = .returned (.bool true) ∧ Kept [] w w' :=
  aesblock_step (fun gw K x0 w h hK hx => rblock5_any gw K x0 w h hK hx) key x w hkl hxl
end Go.Proofs.Yticjdmdbjhbddaa
