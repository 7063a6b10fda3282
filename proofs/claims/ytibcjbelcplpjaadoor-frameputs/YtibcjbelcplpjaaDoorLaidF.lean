/-
  What the listed package-level tables hold when a law of layer 13 begins for frames. No statement of the seed is proved here.
-/
import Derived.Test.YtibcjbelcplpjaaDoorRows
import Derived.Test.YtibcjbelcplpjaaDoorTie
import Derived.Test.YtibcjbelcplpjaaDoorLaw13x
import Derived.ProofKit
import Derived.LaidMore
import Derived.OpenShut
import Derived.Stop.Joined
namespace Go.Proofs.YtibcjbelcplpjaaDoor
open Go.ChangeShapes Go.WideShapes Go.ChangeAt Go.WideMaps Go.WideElems Go.RowKit
set_option linter.unusedVariables false

def laidL : List (String × DataW Unit) := [("math/bits.deBruijn32tab", Rows.laid_math_bits_deBruijn32tab), ("math/bits.deBruijn64tab", Rows.laid_math_bits_deBruijn64tab), ("internal/strconv.uint64pow10", Rows.laid_internal_strconv_uint64pow10), ("scrinium/sha.first", Rows.laid_scrinium_sha_first), ("scrinium/sha.rounds", Rows.laid_scrinium_sha_rounds)]
theorem powD {H : Type} : (Rows.laid_internal_strconv_uint64pow10 : DataW H) = Lib.tabData .u64 Lib.pow10Tab := by kernel_rfl
theorem gPow : Tryd.prog.globalNamed "internal/strconv.uint64pow10" = some 0 := by kernel_rfl
theorem tPow : (Tryd.prog.globals[0]?).map (·.type) = some 130 := by kernel_rfl
theorem pow_of {H : Type} {enc : TypeId × Value → H} {W : World} {base : Nat} {sp : Nat → Bool} {held : Bool} {fuel : Nat} {cs : Array Value} {q : List MemPlace} (hv : World.var? Tryd.prog W "internal/strconv.uint64pow10" = some cs)
    (hd : DataW.trod enc Tryd.prog W base sp held fuel 130 cs.toList = some (Rows.laid_internal_strconv_uint64pow10, q)) : GlobI W := by
  rw [powD] at hd
  have h := Lib.cells_of_tab (n := 20) Tryd.underlying130 Tryd.underlying59 (by kernel_rfl) (by kernel_rfl) hd
  unfold GlobI Lib.TabIs
  rw [hv, ← h]
theorem gFirst : Tryd.prog.globalNamed "scrinium/sha.first" = some 1 := by kernel_rfl
theorem gRounds : Tryd.prog.globalNamed "scrinium/sha.rounds" = some 4 := by kernel_rfl
theorem tFirst : (Tryd.prog.globals[1]?).map (·.type) = some 133 := by kernel_rfl
theorem tRounds : (Tryd.prog.globals[4]?).map (·.type) = some 142 := by kernel_rfl
theorem cells38 : Tryd.prog.cellsOf 114 = 1 := by kernel_rfl
def litW {H : Type} (z : Int) : DataW H := .lit (.int .u32 z)
theorem firstD {H : Type} : (Rows.laid_scrinium_sha_first : DataW H) = .agg ((st0.l.map fun x => (x.toNat : Int)).map litW) := by kernel_rfl
theorem roundsD {H : Type} : (Rows.laid_scrinium_sha_rounds : DataW H) = .agg ((ks.map fun x => (x.toNat : Int)).map litW) := by kernel_rfl

theorem words_of_laid {H : Type} {enc : TypeId × Value → H} {P : Program} {W : World} {base : Nat} {sp : Nat → Bool} {held : Bool} {fuel g : Nat} {name : String} {t e : TypeId} {n : Nat} {cs : Array Value} {q : List MemPlace} {ws : List W32}
    (hg : P.globalNamed name = some g) (hv : World.var? P W name = some cs) (ht : P.underlying t = some (.array n e)) (he : P.underlying e = some (.int .u32)) (hc : P.cellsOf e = 1)
    (hd : DataW.trod enc P W base sp held fuel t cs.toList = some (.agg ((ws.map fun x => (x.toNat : Int)).map litW), q)) (hn : ws.length = n) :
    ∀ k, k < n → W.cell? ⟨g, k, none⟩ = some (.int .u32 (wv (ws.getD k 0))) := by
  intro k hk
  obtain ⟨xs, m, _, hx, _, hlen, hel⟩ := DataW.trod_array ht hd
  simp only [Prod.mk.injEq, DataW.agg.injEq] at hx
  have h1 := hel k hk
  rw [List.getElem?_eq_getElem (by omega)] at h1
  obtain ⟨z, e1, e2, _⟩ := DataW.trod_int he h1
  have h2 := congrArg (fun l : List (DataW H) => l[k]?) hx.1
  simp only [List.getElem?_map] at h2
  rw [List.getElem?_eq_getElem (by omega), List.getElem?_eq_getElem (by omega), e2] at h2
  simp only [Option.map_some, Option.some.injEq, litW, DataW.lit.injEq, Lit.int.injEq, true_and] at h2
  rw [hc, Nat.mul_one] at e1
  have h3 := World.var?_cell hg hv k
  rw [h3]
  have h4 : (cs.toList.drop k).take 1 = [.int .u32 z] := e1
  have h5 := congrArg (fun l : List Value => l[0]?) h4
  simp only [List.getElem?_take, List.getElem?_drop] at h5
  simp at h5
  rw [h5, wv_eq, ← h2]
  congr 3
  rw [List.getD_eq_getElem?_getD, List.getElem?_eq_getElem (by omega)]
  rfl

theorem of_laid {W : World} (h : laidMetH Tryd.prog laidL W) : GlobF W := by
  rw [MakeChecks.laidMetH_plain _ _ _ (by kernel_rfl)] at h
  obtain ⟨ps, ⟨g0, t0, cs0, f0, p0, q0, hg0, ht0, hv0, hd0, ⟨g1, t1, cs1, f1, p1, q1, hg1, ht1, hv1, hd1, ⟨g2, t2, cs2, f2, p2, q2, hg2, ht2, hv2, hd2, ⟨g3, t3, cs3, f3, p3, q3, hg3, ht3, hv3, hd3, ⟨g4, t4, cs4, f4, p4, q4, hg4, ht4, hv4, hd4, _, _⟩, _⟩, _⟩, _⟩, _⟩, _⟩ := h
  obtain rfl := Option.some.inj (gPow.symm.trans hg2)
  obtain rfl := Option.some.inj (tPow.symm.trans ht2)
  obtain rfl := Option.some.inj (gFirst.symm.trans hg3)
  obtain rfl := Option.some.inj (gRounds.symm.trans hg4)
  obtain rfl := Option.some.inj (tFirst.symm.trans ht3)
  obtain rfl := Option.some.inj (tRounds.symm.trans ht4)
  rw [firstD] at hd3
  rw [roundsD] at hd4
  exact ⟨⟨words_of_laid hg3 hv3 Tryd.underlying133 Tryd.underlying114 cells38 hd3 rfl, words_of_laid hg4 hv4 Tryd.underlying142 Tryd.underlying114 cells38 hd4 rfl⟩, pow_of hv2 hd2⟩

/-- The door's own heap meets the condition. -/
theorem door_met (os : Os) (args : Array Value) : laidMetH Tryd.prog laidL ((World.doorLaid Tryd.prog 34 os).forCall (fun _ _ => 0) ⟨#[], args, []⟩).memory :=
  laidMetH_of_parts3 (fuel := 8) (laidMet_of_run' 8 (by kernel_rfl) (by kernel_rfl)) (by kernel_rfl) (by kernel_rfl)
end Go.Proofs.YtibcjbelcplpjaaDoor
