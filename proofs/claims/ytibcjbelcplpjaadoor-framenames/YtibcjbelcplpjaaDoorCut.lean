/-
  A byte slice that is cut: what its pieces read as. No statement of the seed is proved here.
-/
import Derived.Test.YtibcjbelcplpjaaDoorMem
namespace Go.Proofs.YtibcjbelcplpjaaDoor
open Go.RowKit

theorem RdB.drop {w : World} {A : Option Addr} {n c : Nat} {bs : List UInt8} (h : RdB w A n c bs) (k : Nat) (hk : k ≤ n) :
    RdB w (if c = k then A else A.map (·.add k)) (n - k) (c - k) (bs.drop k) := by
  have hl := h.len
  have hc := h.cap
  have hm := h.most
  refine ⟨by rw [List.length_drop, hl], by omega, by omega, fun hp => ?_⟩
  obtain ⟨b, off, rfl, hcell⟩ := h.cells (by omega)
  rw [if_neg (by omega)]
  have h2 : (⟨b, off, none⟩ : Addr).add k = ⟨b, off + k, none⟩ := by unfold Addr.add; split <;> simp_all
  refine ⟨b, off + k, by simp [h2], fun j hj => ?_⟩
  rw [List.length_drop] at hj
  have := hcell (k + j) (by omega)
  rw [List.getElem_drop, Nat.add_assoc]
  exact this
theorem RdB.take {w : World} {A : Option Addr} {n c : Nat} {bs : List UInt8} (h : RdB w A n c bs) (k : Nat) (hk : k ≤ n) : RdB w A k c (bs.take k) := by
  have hl := h.len
  have hc := h.cap
  refine ⟨by rw [List.length_take]; omega, by omega, h.most, fun hp => ?_⟩
  obtain ⟨b, off, e, hcell⟩ := h.cells (by omega)
  refine ⟨b, off, e, fun j hj => ?_⟩
  rw [List.length_take] at hj
  rw [List.getElem_take]
  exact hcell j (by omega)

theorem off_add {A : Option Addr} {S : List Nat} (h : Off A S) (k : Nat) : Off (A.map (·.add k)) S := by
  intro a ha
  rcases A with _ | b
  · cases ha
  · simp only [Option.map_some, Option.some.injEq] at ha
    subst ha
    have := h b rfl
    unfold Addr.add
    split <;> exact this

end Go.Proofs.YtibcjbelcplpjaaDoor
