/-
  Contracts of layer 7 (gf): twice a byte, the tables, products. No statement of the seed is proved here.
-/
import Derived.Test.YtmfbgogfefgglaaChecked
import Derived.Test.YtmfbgogfefgglaaWd
import Derived.Test.YtmfbgogfefgglaaGfT
import Derived.Outline
import Derived.Deep.QuietTactic
import Derived.BigQuiet
import Derived.StillTailTactics
import Derived.RegionTactic
import Derived.Deep.RegionHeld3
namespace Go.Proofs.Ytmfbgogfefgglaa
open Go.RowKit
set_option linter.unusedVariables false

theorem dbl7_int (x : UInt8) : bits .xor .u64 ((x.toNat : Int) * 2) ((x.toNat : Int) * 2 / 256 * 285) % 256 = ((xt 0x1d x).toNat : Int) := by
  have hx := x.toNat_lt
  rw [← dbl7]
  have e1 : (x.toNat : Int) * 2 = ((2 * x.toNat : Nat) : Int) := by omega
  have e2 : (x.toNat : Int) * 2 / 256 * 285 = ((2 * x.toNat / 256 * 285 : Nat) : Int) := by omega
  rw [e2, e1, u64_xor_nat _ _ (by omega) (by omega)]
  omega
theorem doubled7_any (x : UInt8) (z : Int) (w : World) (hz : z = (x.toNat : Int)) : Calls Try.prog 29 #[.int .u8 z] w fun e w' => e = .returned (.int .u8 ((xt 0x1d x).toNat : Int)) ∧ w' = w := by
  subst hz
  have hx := x.toNat_lt
  go_enter Try.func29, Try.ntmps29
  go_wp2
  go_ret
  exact ⟨ret_int (dbl7_int x), rfl⟩

/-- The tables lie in block p. -/
def TabAt (w : World) (p : Nat) : Prop := Blk w p 53 (bvs tabl)
theorem TabAt.kept {w w' : World} {p : Nat} {S : List Nat} (h : TabAt w p) (hk : Kept S w w') (hS : p ∉ S) : TabAt w' p := Blk.kept h hk hS
theorem TabAt.kept0 {w w' : World} {p : Nat} (h : TabAt w p) (hk : Kept [] w w') : TabAt w' p := Blk.kept0 h hk
theorem TabAt.drewN {w : World} {p : Nat} (h : TabAt w p) (m : Nat) : TabAt (w.drewN m) p := Blk.drewN h m
theorem TabAt.lt {w : World} {p : Nat} (h : TabAt w p) : p < w.heap.size := Blk.lt h
theorem TabAt.exp {w : World} {p : Nat} (h : TabAt w p) (j : Nat) (hj : j < 510) : w.cell? ⟨p, j, none⟩ = some (.int .u8 ((gexp j).toNat : Int)) := by
  rw [Blk.cell h j, bvs, List.getElem?_map, tabl_exp j hj]; rfl
theorem TabAt.log {w : World} {p : Nat} (h : TabAt w p) (x : UInt8) (hx : x ≠ 0) : w.cell? ⟨p, 510 + x.toNat, none⟩ = some (.int .u8 ((glog x : Nat) : Int)) := by
  rw [Blk.cell h, bvs, List.getElem?_map, tabl_log x hx]
  show some (Value.int .u8 ((UInt8.ofNat (glog x)).toNat : Int)) = _
  rw [log_nat x hx]
theorem builtTab : Try.prog.built 53 [] = some (bvs (tabN 0)).toArray := by kernel_rfl

/-- A call that makes the tables. -/
def TabRet (w : World) (e : Ending) (w' : World) : Prop := ∃ p, e = .returned (.pointer (some ⟨p, 0, none⟩)) ∧ TabAt w' p ∧ w.heap.size ≤ p ∧ Kept [] w w'

set_option maxRecDepth 100000 in
set_option maxHeartbeats 1000000 in
theorem make7_any (w : World) : Calls Try.prog 14 #[] w (TabRet w) := by
  have HB0 := Lib.hid builtTab
  have hP0 := Blk.new w 53 (bvs (tabN 0))
  have hk0 : Kept [] w (w.alloc (.cells (bvs (tabN 0)).toArray 53)) := (Kept.refl [] w).alloc _
  have Hl := Lib.hid tabN_length
  have Hall := Lib.hid tabN_all
  have Hstep : Hid (∀ k, k < 255 → tabN (k + 1) = (((tabN k).set k (gexp k)).set (k + 255) (gexp k)).set (510 + (gexp k).toNat) (UInt8.ofNat k)) := Lib.hid (fun k hk => by rw [← expTab_getD k hk]; rfl)
  have Hxt := Lib.hid gexp_xt
  obtain ⟨T, hT⟩ : ∃ T, T = tabN := ⟨_, rfl⟩
  rw [← hT] at HB0 hP0 hk0 Hl Hall Hstep
  clear hT
  obtain ⟨p, hp⟩ : ∃ p, p = w.heap.size := ⟨_, rfl⟩
  rw [← hp] at hP0
  have l1 : w.heap.size ≤ p := by omega
  have Hp := Lib.hid hp
  clear hp
  go_enter Try.func14, Try.ntmps14
  go_wp2_with (first
    | (with_reducible change wpList _ _ _ (⟨_, Op.build _ _, _, _, _, _⟩ :: _) _ _; refine wpList_buildTo rfl 53 _ rfl _ rfl (bvs (T 0)).toArray (by simpa [Act.eval, Act.put] using HB0.out) ?_)
    | (with_reducible change wpList _ _ _ (⟨_, Op.box _ _, _, _, _, _⟩ :: _) _ _; refine Great.wpList_boxTo rfl 53 _ rfl _ rfl p Hp.out.symm (bvs (T 0)).toArray rfl ?_; generalize w.alloc (.cells (bvs (T 0)).toArray 53) = w1 at *))
  go_loopw [2, 6] (fun y i wr => ∃ k : Nat, k ≤ 255 ∧ y = .int .u8 ((gexp k).toNat : Int) ∧ i = .int .i64 (k : Int) ∧ Blk wr p 53 (bvs (T k)) ∧ Kept [] w wr) (fun _ i _ => 255 - (intOf i).toNat)
  case atStart => exact ⟨0, by omega, rfl, rfl, hP0, hk0⟩
  case round =>
    clear hP0 hk0
    obtain ⟨k, hk, rfl, rfl, hP, hK⟩ := hrel
    by_cases hlt : k < 255
    · have hst := Hstep.out k hlt
      have hxt := Hxt.out k
      have hLk := Hl.out k
      obtain ⟨y, hy⟩ : ∃ y, y = gexp k := ⟨_, rfl⟩
      rw [← hy] at hst hxt ⊢
      have hyb := y.toNat_lt
      obtain ⟨m, hm⟩ : ∃ m, m = k + 255 := ⟨_, rfl⟩
      have hadd : (k : Int) + 255 = (m : Int) := by omega
      have hml : (m : Int) < 510 := by omega
      have hkb : (k : Int) % 256 = (k : Int) := by omega
      rw [← hm] at hst
      have c1 := hP.cellD k (by rw [bvs_length, hLk]; omega)
      generalize (bvs (T k))[k]'(by rw [bvs_length, hLk]; omega) = u1 at c1
      have f1 := hP.frz k
      have h1 := hP.set k (bcell y)
      have c2 := h1.cellD m (by rw [List.length_set, bvs_length, hLk]; omega)
      generalize ((bvs (T k)).set k (bcell y))[m]'(by rw [List.length_set, bvs_length, hLk]; omega) = u2 at c2
      have f2 := h1.frz m
      have h2 := h1.set m (bcell y)
      have c3 := h2.cellD (510 + y.toNat) (by rw [List.length_set, List.length_set, bvs_length, hLk]; omega)
      generalize (((bvs (T k)).set k (bcell y)).set m (bcell y))[510 + y.toNat]'(by rw [List.length_set, List.length_set, bvs_length, hLk]; omega) = u3 at c3
      have f3 := h2.frz (510 + y.toNat)
      have h3 := h2.set (510 + y.toNat) (.int .u8 (k : Int))
      have e3 : (((bvs (T k)).set k (bcell y)).set m (bcell y)).set (510 + y.toNat) (.int .u8 (k : Int)) = bvs (T (k + 1)) := by
        rw [hst, bvs, bvs, List.map_set, List.map_set, List.map_set, show bcell (UInt8.ofNat k) = .int .u8 (k : Int) by unfold bcell; rw [show (UInt8.ofNat k).toNat = k by simp; omega]]
      rw [e3] at h3
      have hKn := ((hK.setCell (p := ⟨p, k, none⟩) (by right; exact l1) (bcell y)).setCell (p := ⟨p, m, none⟩) (by right; exact l1) (bcell y)).setCell (p := ⟨p, 510 + y.toNat, none⟩) (by right; exact l1) (.int .u8 (k : Int))
      unfold bcell at c2 f2 c3 f3 h3 hKn
      have H3 := Lib.hid h3
      have HKn := Lib.hid hKn
      have Hx := Lib.hid hxt
      clear hst hLk e3 hP hK h1 h2 h3 hKn hxt hy hm
      go_wp2_with fail
      refine (doubled7_any y _ _ rfl).mono ?_
      rintro e w4 ⟨rfl, rfl⟩
      rw [Hx.out]
      go_wp2
      go_roundw
      case rel => exact ⟨k + 1, by omega, rfl, by go_num, H3.out, HKn.out⟩
      case measure => simp [intOf]; omega
    · obtain rfl : k = 255 := by omega
      rw [Hall.out] at hP
      go_wp2
      go_ret
      exact ⟨p, rfl, hP, l1, hK⟩

set_option maxRecDepth 100000 in
set_option maxHeartbeats 1000000 in
/-- A product, by the tables. -/
theorem mul7_any (p : Nat) (a b : UInt8) (y z : Int) (w : World) (hT : TabAt w p) (hy : y = (a.toNat : Int)) (hz : z = (b.toNat : Int)) :
    Calls Try.prog 36 #[.pointer (some ⟨p, 0, none⟩), .int .u8 y, .int .u8 z] w fun e w' => e = .returned (.int .u8 ((gmul 0x1d a b).toNat : Int)) ∧ ∃ m, w' = w.drewN m := by
  subst hy hz
  have ha := a.toNat_lt
  have hb := b.toNat_lt
  by_cases ha0 : a = 0
  · subst ha0
    rw [gmul_zero_l]
    go_enter Try.func36, Try.ntmps36
    go_wp2
    go_ret
    exact ⟨rfl, 0, rfl⟩
  · have hna : a.toNat ≠ 0 := fun h => ha0 (UInt8.toNat_inj.1 h)
    by_cases hb0 : b = 0
    · subst hb0
      rw [gmul_zero_r]
      go_enter Try.func36, Try.ntmps36
      go_wp2
      go_ret
      exact ⟨rfl, 0, rfl⟩
    · have hnb : b.toNat ≠ 0 := fun h => hb0 (UInt8.toNat_inj.1 h)
      have c1 := hT.log a ha0
      have c2 := hT.log b hb0
      have l1 := glog_lt a ha0
      have l2 := glog_lt b hb0
      have hg := gmul_log a b ha0 hb0
      have c3 := hT.exp (glog a + glog b) (by omega)
      rw [hg] at c3
      have Hg := Lib.hid hg
      generalize gmul 0x1d a b = r at *
      generalize glog a = la at *
      generalize glog b = lb at *
      obtain ⟨s, hs⟩ : ∃ s, s = la + lb := ⟨_, rfl⟩
      rw [← hs] at c3
      have hw : IntKind.i64.wrap ((la : Int) + (lb : Int)) = (s : Int) := by rw [IntWalk.i64_in _ (by omega)]; omega
      have hsl : (s : Int) < 510 := by omega
      have hea : ((a.toNat : Int) == 0) = false := by simp; omega
      have heb : ((b.toNat : Int) == 0) = false := by simp; omega
      clear hg Hg hs ha0 hb0 hT hna hnb
      go_enter Try.func36, Try.ntmps36
      go_wp2
      go_quiet (fail)
      go_wp2
      go_ret
      exact ⟨rfl, nq, rfl⟩
/-- Of no tables. -/
theorem mul7_nil (y z : Int) (w : World) : Calls Try.prog 36 #[.pointer none, .int .u8 y, .int .u8 z] w fun e w' => e = .returned (.int .u8 0) ∧ w' = w := by
  go_enter Try.func36, Try.ntmps36
  go_wp2
  go_ret
  exact ⟨rfl, rfl⟩
end Go.Proofs.Ytmfbgogfefgglaa
