/-
  Contracts of layer 7 (gf): texts added, multiplied. No statement of the seed is proved here.
-/
import Derived.Test.YtmoelakdfgggfaaGf2i
import Derived.Test.YtmoelakdfgggfaaGfS
import Derived.Test.YtmoelakdfgggfaaSetC
import Derived.Test.YtmoelakdfgggfaaInfo
import Derived.Deep.RegionLaw
namespace Go.Proofs.Ytmoelakdfgggfaa
open Go.RowKit
set_option linter.unusedVariables false

theorem bvs_set (l : List UInt8) (k : Nat) (y : UInt8) : (bvs l).set k (bcell y) = bvs (l.set k y) := by simp [bvs, List.map_set]

theorem gadd_nought (ss text : List UInt8) (h : ss.length = text.length) : gadd ss 0 text = ss := by
  unfold gadd
  apply List.ext_getElem?
  intro i
  rw [List.getElem?_zipWith]
  by_cases hi : i < ss.length
  · rw [List.getElem?_eq_getElem hi, List.getElem?_eq_getElem (by omega : i < text.length)]; simp [gmul_zero_l]
  · rw [List.getElem?_eq_none (by omega)]

set_option maxRecDepth 100000 in
set_option maxHeartbeats 2000000 in
theorem add7_any (p g n : Nat) (ss : List UInt8) (c : UInt8) (z : Int) (A : Option Addr) (n' cc : Nat) (text : List UInt8) (w : World) (hT : TabAt w p) (hz : z = (c.toNat : Int)) (hB : Blk w g 5 (bvs ss)) (hs : ss.length = n) (hr : RdB w A n' cc text) (hn : n' = n) (hoff : 0 < n → Off A [g]) (hpg : p ≠ g) :
    Calls Try.prog 27 #[.pointer (some ⟨p, 0, none⟩), .slice (some ⟨g, 0, none⟩) n n, .int .u8 z, .slice A n' cc] w fun e w' => e = .returned (.tuple #[]) ∧ Blk w' g 5 (bvs (gadd ss c text)) ∧ Kept [g] w w' := by
  subst hz hn
  by_cases hc0 : c = 0
  · subst hc0
    rw [gadd_nought ss text (by rw [hs]; exact hr.len.symm)]
    clear hT hs hr hoff hpg
    go_enter Try.func27, Try.ntmps27
    go_wp2
    refine bodyPost_ret (results_none rfl _ _ _) rfl ?_
    exact ⟨rfl, hB, Kept.refl _ _⟩
  have hm := hr.cap
  have hm2 := hr.most
  unfold maxLen at hm2
  have hcb := c.toNat_lt
  have hnc : c.toNat ≠ 0 := fun h => hc0 (UInt8.toNat_inj.1 h)
  have hec : ((c.toNat : Int) == 0) = false := by simp; omega
  clear hc0
  have Htl := Lib.hid hr.len
  have Hss := Lib.hid hs
  have HRl : Hid ((gadd ss c text).length = ss.length) := Lib.hid (gadd_length _ _ _ (by rw [hs]; exact hr.len.symm))
  have HT := Lib.hid hT
  have HR := Lib.hid hr
  have HO := Lib.hid hoff
  have HG := Lib.hid (fun (k : Nat) (x y : UInt8) (hx : ss[k]? = some x) (hy : text[k]? = some y) => gadd_get (c := c) hx hy)
  obtain ⟨R, hRR⟩ : ∃ R, R = gadd ss c text := ⟨_, rfl⟩
  rw [← hRR] at HRl HG ⊢
  have hB0 := hB
  clear hT hr hs hoff hRR hB
  go_enter Try.func27, Try.ntmps27
  go_wp2
  go_loopw [14] (fun i wr => ∃ k : Nat, k ≤ n' ∧ i = .int .i64 (k : Int) ∧ Blk wr g 5 (bvs (ovr R ss k)) ∧ Kept [g] w wr) (fun i _ => n' - (intOf i).toNat)
  case atStart => exact ⟨0, by omega, rfl, by rw [ovr_zero]; exact hB0, Kept.refl _ _⟩
  case round =>
    clear hB0
    obtain ⟨k, hk, rfl, hB, hK⟩ := hrel
    by_cases hlt : k < n'
    · obtain ⟨x, hx⟩ : ∃ x, ss[k]? = some x := ⟨_, List.getElem?_eq_getElem (by have := Hss.out; omega)⟩
      have hr2 := HR.out.kept hK (HO.out (by omega))
      obtain ⟨b, off, y, rfl, c1, gy, hy⟩ := hr2.byte hlt
      have hbg : b ≠ g := fun e => HO.out (by omega) _ rfl (by simp [e])
      have hLen : R.length = ss.length := HRl.out
      have c2 : wr.cell? ⟨g, k, none⟩ = some (.int .u8 (x.toNat : Int)) := by
        rw [hB.cell, bvs, List.getElem?_map, ovr_ge hLen (Nat.le_refl k) (by have := Hss.out; omega), hx]; rfl
      have f2 := hB.frz k
      have hxb := x.toNat_lt
      obtain ⟨r, hr⟩ : ∃ r, r = gmul 0x1d c y := ⟨_, rfl⟩
      obtain ⟨s8, hs8⟩ : ∃ s8, s8 = x ^^^ r := ⟨_, rfl⟩
      have rx : bits .xor .u8 (x.toNat : Int) (r.toNat : Int) = (s8.toNat : Int) := by rw [bits_xorB, hs8]
      have hrb := r.toNat_lt
      have hset := ovr_set (n := k) hLen (by have := Hss.out; omega) (v := s8) (by rw [hs8, hr]; exact HG.out k x y hx gy)
      have HF : Hid (∀ W, Kept [] wr W → Blk (W.setCell ⟨g, k, none⟩ (.int .u8 (s8.toNat : Int))) g 5 (bvs (ovr R ss (k + 1))) ∧ Kept [g] w (W.setCell ⟨g, k, none⟩ (.int .u8 (s8.toNat : Int)))) := Lib.hid (fun W hW => by
        have h1 := (hB.kept0 hW).set k (bcell s8)
        rw [bvs_set, hset] at h1
        exact ⟨h1, (hK.andThen hW).setCell (.inl (by simp)) _⟩)
      have HT2 : Hid (TabAt wr p) := Lib.hid (HT.out.kept hK (by simpa using hpg))
      have HM : Hid (∀ W, TabAt W p → Calls Try.prog 13 #[.pointer (some ⟨p, 0, none⟩), .int .u8 (c.toNat : Int), .int .u8 (y.toNat : Int)] W fun e w' => e = .returned (.int .u8 (r.toNat : Int)) ∧ ∃ m, w' = W.drewN m) := Lib.hid (fun W hW => by rw [hr]; exact mul7_any p c y _ _ W hW rfl rfl)
      clear hset hLen hx gy hr hs8 hB hK hr2
      go_wp2
      go_region_law (first
        | (go_simp; go_at_call 13; refine (HM.out _ (by first | exact HT2.out | exact HT2.out.kept0 (Kept.refl [] _).drew)).mono ?_; rintro e w6 ⟨rfl, m, rfl⟩))
      all_goals
        obtain ⟨hB8, hK8⟩ := HF.out (wr.drewN (1 + m)) ((Kept.refl [] wr).drewN _)
        generalize (wr.drewN (1 + m)).setCell ⟨g, k, none⟩ (.int .u8 (s8.toNat : Int)) = w8 at *
        clear HF HM HT2 c1 c2 f2 rx
        go_wp2
        go_roundw
        case rel => exact ⟨k + 1, by omega, by go_num, hB8, hK8⟩
        case measure => simp [intOf]; omega
    · obtain rfl : n' = k := by omega
      rw [ovr_all HRl.out (by have := Hss.out; omega)] at hB
      go_wp2
      go_end0
      exact ⟨rfl, hB, hK⟩

/-- A text in a row of the call's own. -/
def RowRet (bs : List UInt8) (w : World) (e : Ending) (w' : World) : Prop := ∃ g n, e = .returned (.slice (some ⟨g, 0, none⟩) n n) ∧ Blk w' g 5 (bvs bs) ∧ bs.length = n ∧ w.heap.size ≤ g ∧ Kept [] w w'
end Go.Proofs.Ytmoelakdfgggfaa
