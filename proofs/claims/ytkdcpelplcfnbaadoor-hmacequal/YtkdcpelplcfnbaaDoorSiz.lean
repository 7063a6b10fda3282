/-
  The form's own reach, as walks ask it: how much room a byte slice can have. No statement of the seed is proved here.
-/
import Derived.Test.YtkdcpelplcfnbaaDoorLift
namespace Go.Proofs.YtkdcpelplcfnbaaDoor
open Go.ChangeShapes Go.WideShapes Go.ChangeAt Go.RowKit

/-- The form's own reach: a byte slice has room for at most so many bytes. -/
theorem cap_of_trod {H : Type} {enc : TypeId × Value → H} {P : Program} {W : World} {t e : TypeId} {a : Option Addr} {len cap base : Nat} {held : Bool} {d : DataW H} {p : List MemPlace}
    (ht : P.underlying t = some (.slice e)) (he : P.underlying e = some (.int .u8)) (hc : P.cellsOf e = 1) (hb : P.bytesOf e = 1)
    (h : DataW.Trod enc P W base (fun _ => true) held t (.slice a len cap) d p) (hw : ∀ x ∈ d.weights P t, x ≤ reachBytes) : cap ≤ 140737488351232 := by
  obtain ⟨fuel, hf⟩ := h
  rcases open_ints ht he hc hf with ⟨hcs, _⟩ | ⟨x, l, c, zs, hcs, _, hl, hm, hz, hd, hcell, hwz⟩
  · simp [Value.cells] at hcs
    obtain ⟨rfl, rfl, rfl⟩ := hcs
    omega
  · simp [Value.cells] at hcs
    obtain ⟨rfl, rfl, rfl⟩ := hcs
    injection hd with hd _
    subst hd
    have h1 := hw ((len + (zs.length - len)) * 1) (by
      unfold DataW.weights
      rw [if_pos rfl] at hz
      simp only [ht, hb, lits, List.length_map, List.length_take, List.length_drop]
      rw [show min len zs.length = len by omega]
      exact List.mem_cons_self)
    rw [if_pos rfl] at hz
    unfold reachBytes at h1
    omega

end Go.Proofs.YtkdcpelplcfnbaaDoor
