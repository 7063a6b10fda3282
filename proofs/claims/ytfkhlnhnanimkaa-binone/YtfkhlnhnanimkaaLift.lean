/-
  How arguments that came in are read: words between a row's data and this seat's walks. No statement of the seed is proved here.
-/
import Derived.Test.YtfkhlnhnanimkaaMem
import Derived.OpenShut
import Derived.ShutString
import Derived.ChangeOld
namespace Go.Proofs.Ytfkhlnhnanimkaa
open Go.ChangeShapes Go.WideShapes Go.ChangeAt Go.RowKit

theorem zs_byte (z : Int) (h : (Lit.int .u8 z).wf = true) : z = ((UInt8.ofNat z.toNat).toNat : Int) := by
  have := bounds_u8 h
  simp only [UInt8.toNat_ofNat']
  omega

/-- A byte slice that came in reads as bytes. -/
theorem rdb_of_trod {H : Type} {enc : TypeId × Value → H} {P : Program} {W : World} {t e : TypeId} {a : Option Addr} {len cap base : Nat} {sp : Nat → Bool} {held : Bool} {d : DataW H} {p : List MemPlace}
    (ht : P.underlying t = some (.slice e)) (he : P.underlying e = some (.int .u8)) (hc : P.cellsOf e = 1)
    (h : DataW.Trod enc P W base sp held t (.slice a len cap) d p) : ∃ bs, RdB W a len cap bs := by
  obtain ⟨fuel, hf⟩ := h
  rcases open_ints ht he hc hf with ⟨hcs, _⟩ | ⟨x, l, c, zs, hcs, _, hl, hm, hz, _, hcell, hwz⟩
  · simp [Value.cells] at hcs
    obtain ⟨rfl, rfl, rfl⟩ := hcs
    exact ⟨[], RdB.nil W⟩
  · simp [Value.cells] at hcs
    obtain ⟨rfl, rfl, rfl⟩ := hcs
    have hlen : len ≤ zs.length := by rw [hz]; split <;> omega
    refine ⟨(zs.take len).map (fun z => UInt8.ofNat z.toNat), by simp; omega, hl, hm, fun hp => ?_⟩
    obtain ⟨b, off, spot⟩ := x
    have hs : spot = none := by
      have h0 := hcell 0 (by omega)
      simpa [Addr.add] using World.cell?_spot h0
    subst hs
    refine ⟨b, off, rfl, fun j hj => ?_⟩
    simp only [List.length_map, List.length_take] at hj
    have hjz : j < zs.length := by omega
    have h1 := hcell j hjz
    have h2 : (⟨b, off, none⟩ : Addr).add j = ⟨b, off + j, none⟩ := by unfold Addr.add; split <;> simp_all
    rw [h2] at h1
    rw [h1]
    have h3 : zs.getD j 0 = zs[j] := by simp [hjz]
    rw [h3]
    simp only [bcell, List.getElem_map, List.getElem_take]
    rw [← zs_byte zs[j] (hwz _ (List.getElem_mem hjz))]
end Go.Proofs.Ytfkhlnhnanimkaa
