/-
  Contracts of layer 8 (matrix): a row times c added to another. No statement of the seed is proved here.
-/
import Derived.Test.YtmfbgogfefgglaaGf2i
import Derived.Test.YtmfbgogfefgglaaMtM
import Derived.Deep.RegionLaw
namespace Go.Proofs.Ytmfbgogfefgglaa
open Go.RowKit
set_option linter.unusedVariables false

theorem bits_xorB8 (x r : UInt8) : bits .xor .u8 (x.toNat : Int) (r.toNat : Int) = ((x ^^^ r).toNat : Int) := bits_xorB x r
theorem gb_mul (x y : GB) : (x * y).v = gmul 0x1d x.v y.v := rfl
theorem gb_add (x y : GB) : (x + y).v = x.v ^^^ y.v := rfl
set_option maxRecDepth 100000 in
set_option maxHeartbeats 2000000 in
theorem add8_any (p G o k c2 b ob cc : Nat) (c : GB) (z : Int) (x y : Nat → GB) (w : World) (hT : TabAt w p) (hpG : p ≠ G) (hz : z = (c.v.toNat : Int)) (hB : ∃ cs, Blk w G 5 cs)
    (hy : ∀ j, j < k → w.cell? ⟨G, o + j, none⟩ = some (bcell (y j).v)) (hx : ∀ j, j < k → w.cell? ⟨b, ob + j, none⟩ = some (bcell (x j).v)) (hb : b = G → ∀ i, i < k → ∀ j, j < k → ob + i ≠ o + j) (hkm : k ≤ 1000000) (hkc : k ≤ c2) (hkcc : k ≤ cc) :
    Calls Try.prog 28 #[.pointer (some ⟨p, 0, none⟩), .slice (some ⟨G, o, none⟩) k c2, .int .u8 z, .slice (some ⟨b, ob, none⟩) k cc] w fun e w' => e = .returned (.tuple #[]) ∧ Wrt G w o k (fun j => y j + c * x j) w' := by
  subst hz
  have hcb := c.v.toNat_lt
  have HT := Lib.hid hT
  have HW0 := Lib.hid (Wrt.refl hB hy)
  have HX := Lib.hid hx
  have Hb := Lib.hid hb
  clear hT hB hy hx hb
  by_cases h0 : c.v = 0
  · have HW : Hid (Wrt G w o k (fun j => y j + c * x j) w) := Lib.hid (HW0.out.congr fun j hj => by
      have : c = 0 := by cases c; exact congrArg GB.mk h0
      rw [this, f_zero_mul, Fld.add_zero])
    have hz0 : (c.v.toNat : Int) = 0 := by rw [h0]; rfl
    rw [hz0]
    clear HW0 h0 hz0 hcb
    go_enter Try.func28, Try.ntmps28
    go_wp2
    refine bodyPost_ret (results_none rfl _ _ _) rfl ?_
    exact ⟨rfl, HW.out⟩
  · have hc0 : ((c.v.toNat : Int) == 0) = false := by
      have : c.v.toNat ≠ 0 := fun e => h0 (UInt8.toNat_inj.1 e)
      simp [this]
    have hc1 : (c.v.toNat : Int) ≠ 0 := by simpa using hc0
    obtain ⟨cv, hcv⟩ : ∃ cv, cv = c.v := ⟨_, rfl⟩
    rw [← hcv] at hcb hc0 hc1 ⊢
    have Hcv := Lib.hid hcv
    clear h0 hcv
    go_enter Try.func28, Try.ntmps28
    go_wp2
    go_loopw [14] (fun i wr => ∃ r : Nat, r ≤ k ∧ i = .int .i64 (r : Int) ∧ Hid (Wrt G w o k (fun j => if j < r then y j + c * x j else y j) wr)) (fun i _ => k - (intOf i).toNat)
    case atStart => exact ⟨0, by omega, rfl, Lib.hid (HW0.out.congr fun j hj => by rw [if_neg (by omega)])⟩
    case round =>
      clear HW0
      obtain ⟨r, hr, rfl, HW⟩ := hrel
      by_cases hlt : r < k
      · have c1 : wr.cell? ⟨b, ob + r, none⟩ = some (.int .u8 ((x r).v.toNat : Int)) := HW.out.far (HX.out r hlt) (fun e j hj => Hb.out e r hlt j hj)
        have c2 : wr.cell? ⟨G, o + r, none⟩ = some (.int .u8 ((y r).v.toNat : Int)) := by
          have := HW.out.row r hlt
          simp only [Nat.lt_irrefl, if_false] at this
          exact this
        have f2 : wr.frozen? ⟨G, o + r, none⟩ = false := by obtain ⟨cs, h⟩ := HW.out.blk; exact h.frz _
        obtain ⟨yr, hyr⟩ : ∃ yr, yr = (y r).v := ⟨_, rfl⟩
        obtain ⟨xr, hxr⟩ : ∃ xr, xr = (x r).v := ⟨_, rfl⟩
        rw [← hyr] at c2
        rw [← hxr] at c1
        have hxb := xr.toNat_lt
        have hyb := yr.toNat_lt
        obtain ⟨q, hq⟩ : ∃ q, q = gmul 0x1d cv xr := ⟨_, rfl⟩
        obtain ⟨s8, hs8⟩ : ∃ s8, s8 = yr ^^^ q := ⟨_, rfl⟩
        have rx : bits .xor .u8 (yr.toNat : Int) (q.toNat : Int) = (s8.toNat : Int) := by rw [bits_xorB, hs8]
        have hqb := q.toNat_lt
        have hv : (y r + c * x r).v = s8 := by rw [gb_add, gb_mul, ← Hcv.out, ← hyr, ← hxr, ← hq, hs8]
        have HF : Hid (∀ W, Kept [] wr W → Wrt G w o k (fun j => if j < r + 1 then y j + c * x j else y j) (W.setCell ⟨G, o + r, none⟩ (.int .u8 (s8.toNat : Int)))) := Lib.hid (fun W hW => by
          have h1 := (HW.out.then0 hW).set hlt (y r + c * x r)
          rw [hv] at h1
          exact h1.congr fun j hj => by
            show (if j = r then y r + c * x r else if j < r then y j + c * x j else y j) = _
            by_cases e : j = r
            · rw [if_pos e, if_pos (by omega), e]
            · rw [if_neg e]
              by_cases e2 : j < r
              · rw [if_pos e2, if_pos (by omega)]
              · rw [if_neg e2, if_neg (by omega)])
        have HT2 : Hid (TabAt wr p) := Lib.hid (HT.out.kept HW.out.kept (by simpa using hpG))
        have HM : Hid (∀ W, TabAt W p → Calls Try.prog 36 #[.pointer (some ⟨p, 0, none⟩), .int .u8 (cv.toNat : Int), .int .u8 (xr.toNat : Int)] W fun e w' => e = .returned (.int .u8 (q.toNat : Int)) ∧ ∃ m, w' = W.drewN m) := Lib.hid (fun W hW => by rw [hq]; exact mul7_any p cv xr _ _ W hW rfl rfl)
        clear hv hq hs8 hyr hxr HW
        go_wp2
        go_region_law (first
          | (go_simp; go_at_call 36; refine (HM.out _ (by first | exact HT2.out | exact HT2.out.kept0 (Kept.refl [] _).drew)).mono ?_; rintro e w6 ⟨rfl, m, rfl⟩))
        all_goals
          have HW8 := Lib.hid (HF.out (wr.drewN (1 + m)) ((Kept.refl [] wr).drewN _))
          generalize (wr.drewN (1 + m)).setCell ⟨G, o + r, none⟩ (.int .u8 (s8.toNat : Int)) = w8 at *
          clear HF HM HT2 c1 c2 f2 rx
          go_wp2
          go_roundw
          case rel => exact ⟨r + 1, by omega, by go_num, HW8⟩
          case measure => simp [intOf]; omega
      · obtain rfl : k = r := by omega
        have HE : Hid (Wrt G w o k (fun j => y j + c * x j) wr) := Lib.hid (HW.out.congr fun j hj => by rw [if_pos hj])
        clear HW
        go_wp2
        go_end0
        exact ⟨rfl, HE.out⟩
end Go.Proofs.Ytmfbgogfefgglaa
