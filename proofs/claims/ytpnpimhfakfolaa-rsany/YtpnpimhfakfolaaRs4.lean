/-
  Contracts of layer 9 (rs): are numbers unlike, the rows chosen, the matrix that leads back. No statement of the seed is proved here.
-/
import Derived.Test.YtpnpimhfakfolaaRs3
import Derived.Test.YtpnpimhfakfolaaM87
import Derived.Deep.RegionHeld3
namespace Go.Proofs.Ytpnpimhfakfolaa
open Go.RowKit
set_option linter.unusedVariables false

/-- A slice of ints, told by a function. -/
def RdI (w : World) (A : Option Addr) (m c : Nat) (f : Nat → Int) : Prop := RdV w A m c (rm m fun i => .int .i64 (f i))
theorem RdI.kept0 {w w' : World} {A : Option Addr} {m c : Nat} {f : Nat → Int} (h : RdI w A m c f) (hk : Kept [] w w') : RdI w' A m c f := RdV.kept0 h hk
theorem RdI.at_ {w : World} {A : Option Addr} {m c : Nat} {f : Nat → Int} (h : RdI w A m c f) {i : Nat} (hi : i < m) : ∃ b off, A = some ⟨b, off, none⟩ ∧ b < w.heap.size ∧ w.cell? ⟨b, off + i, none⟩ = some (.int .i64 (f i)) := by
  obtain ⟨b, off, e, hb, hc⟩ := RdV.at_ h (by omega)
  refine ⟨b, off, e, hb, ?_⟩
  rw [hc i (by rw [rm_length]; exact hi)]
  congr 1
  exact Option.some.inj ((List.getElem?_eq_getElem (by rw [rm_length]; exact hi)).symm.trans (rm_get (f := fun i => Value.int .i64 (f i)) hi))
/-- All within n, and none there twice. -/
def unlP (n m : Nat) (f : Nat → Int) : Prop := ∀ i, i < m → (0 ≤ f i ∧ f i < (n : Int)) ∧ ∀ j, j < i → f j ≠ f i
theorem unlP.sel {n m : Nat} {f : Nat → Int} (h : unlP n m f) : ∃ sel : Nat → Nat, (∀ t, t < m → f t = (sel t : Int) ∧ sel t < n) ∧ ∀ t, t < m → ∀ u, u < m → t ≠ u → sel t ≠ sel u := by
  refine ⟨fun t => (f t).toNat, fun t ht => ?_, fun t ht u hu hne e => ?_⟩
  · have := (h t ht).1
    show f t = ((f t).toNat : Int) ∧ (f t).toNat < n
    omega
  · have e' : (f t).toNat = (f u).toNat := e
    have h1 := (h t ht).1
    have h2 := (h u hu).1
    rcases Nat.lt_or_gt_of_ne hne with h3 | h3
    · exact (h u hu).2 t h3 (by omega)
    · exact (h t ht).2 u h3 (by omega)
theorem zeroMet : (Try.prog.info? 90).bind (·.zero) = some (.agg (rm 255 fun _ => Value.bool false).toArray) := by kernel_rfl
theorem sizeIs : (Try.prog.info? 3).map (·.size) = some 1 := by kernel_rfl
theorem sizeLb : (Try.prog.info? 38).map (·.size) = some 1 := by kernel_rfl
def UnlRet (n m : Nat) (f : Nat → Int) (w : World) (e : Ending) (w' : World) : Prop := ∃ q, e = .returned (.bool q) ∧ Kept [] w w' ∧ Hid (q = true ↔ unlP n m f)
/-- Was j there among the first t? -/
def metB (f : Nat → Int) (t j : Nat) : Bool := decide (∃ i, i < t ∧ f i = (j : Int))
theorem metB_zero (f : Nat → Int) (j : Nat) : metB f 0 j = false := decide_eq_false (by rintro ⟨i, h, _⟩; omega)
theorem metB_step (f : Nat → Int) (t s : Nat) (h : f t = (s : Int)) (j : Nat) : (if j = s then true else metB f t j) = metB f (t + 1) j := by
  unfold metB
  by_cases e : j = s
  · rw [if_pos e]
    exact (decide_eq_true ⟨t, by omega, by rw [h, e]⟩).symm
  · rw [if_neg e]
    congr 1
    apply propext
    constructor
    · rintro ⟨i, h1, h2⟩
      exact ⟨i, by omega, h2⟩
    · rintro ⟨i, h1, h2⟩
      refine ⟨i, ?_, h2⟩
      by_cases e2 : i = t
      · subst e2; omega
      · omega

set_option maxRecDepth 100000 in
set_option maxHeartbeats 2000000 in
theorem unlike9_any (A : Option Addr) (n c : Nat) (A1 : Option Addr) (m c1 : Nat) (f : Nat → Int) (w : World) (h1 : RdI w A1 m c1 f) (hn : n ≤ 255) :
    Calls Try.prog 47 #[.slice A n c, .slice A1 m c1] w (UnlRet n m f w) := by
  have H1 := Lib.hid h1
  have b1 := RdV.cap h1
  have b2 := RdV.most h1
  unfold maxLen at b2
  clear h1
  go_enter Try.func47, Try.ntmps47
  go_wp2_with (with_reducible change wpList _ _ _ (⟨_, Op.alloc _, _, _, _, _⟩ :: _) _ _; refine wpList_alloc_blk rfl 90 rfl _ zeroMet ?_)
  intro w1 hB1 hk1 hs1
  obtain ⟨g, hg⟩ : ∃ g, g = w.heap.size := ⟨_, rfl⟩
  rw [← hg] at hB1 ⊢
  have hwg : w.heap.size ≤ g := by omega
  have HB1 : Hid (Blk w1 g 90 (rm 255 fun j => .bool (metB f 0 j))) := Lib.hid (hB1.of_eq (rm_congr fun j _ => by rw [metB_zero]))
  have HK1 := Lib.hid hk1
  clear hB1 hk1 hs1 hg
  go_wp2
  go_loopw [10] (fun i wr => ∃ t : Nat, t ≤ m ∧ i = .int .i64 (t : Int) ∧ Hid (Blk wr g 90 (rm 255 fun j => .bool (metB f t j))) ∧ Hid (unlP n t f) ∧ Hid (Kept [] w wr)) (fun i _ => m - (intOf i).toNat)
  case atStart => exact ⟨0, by omega, rfl, HB1, Lib.hid (fun i h => by omega), HK1⟩
  case round =>
    clear HB1 HK1
    obtain ⟨t, ht, rfl, HB, HU, HK⟩ := hrel
    by_cases hlt : t < m
    · obtain ⟨b, off, rfl, hb, d1⟩ := (H1.out.kept0 HK.out).at_ hlt
      by_cases hin : 0 ≤ f t ∧ f t < (n : Int)
      · obtain ⟨s, hs⟩ : ∃ s : Nat, f t = (s : Int) := ⟨(f t).toNat, by omega⟩
        have hsn : s < n := by omega
        have hs255 : s < 255 := by omega
        have hst := metB_step f t s hs
        have hmt : metB f t s = true ↔ ∃ i, i < t ∧ f i = f t := by unfold metB; rw [decide_eq_true_iff, hs]
        rw [hs] at d1
        obtain ⟨q, hq⟩ : ∃ q, q = metB f t s := ⟨_, rfl⟩
        have d2 : wr.cell? ⟨g, s, none⟩ = some (.bool q) := by rw [HB.out.cell, rm_get hs255, hq]
        rw [← hq] at hmt
        have f2 := HB.out.frz s
        have HSt := Lib.hid hst
        have HMt := Lib.hid hmt
        have HIn := Lib.hid hin
        clear hq hst hmt hin hs
        cases q with
        | true =>
          have HF : Hid (¬ unlP n m f) := Lib.hid (by
            intro h
            obtain ⟨i, h3, h4⟩ := HMt.out.1 rfl
            exact (h t hlt).2 i h3 h4)
          clear HMt HSt
          go_wp2_with fail
          refine (has9_yes _ _ _ s _ _ rfl hsn).mono ?_
          rintro e w' ⟨rfl, rfl⟩
          go_wp2
          go_ret
          exact ⟨false, rfl, HK.out, Lib.hid ⟨fun h => (by cases h), fun h => absurd h HF.out⟩⟩
        | false =>
          have HU2 : Hid (unlP n (t + 1) f) := Lib.hid (by
            intro i hi
            by_cases e : i = t
            · subst e
              exact ⟨HIn.out, fun j hj e2 => by have := HMt.out.2 ⟨j, hj, e2⟩; cases this⟩
            · exact HU.out i (by omega))
          have HB2 : Hid (Blk (wr.setCell ⟨g, s, none⟩ (.bool true)) g 90 (rm 255 fun j => .bool (metB f (t + 1) j))) := Lib.hid (by
            refine (HB.out.set s (.bool true)).of_eq ?_
            rw [rm_set]
            refine rm_congr fun j _ => ?_
            rw [← HSt.out j]
            by_cases e : j = s
            · rw [if_pos e, if_pos e]
            · rw [if_neg e, if_neg e])
          have HK2 : Hid (Kept [] w (wr.setCell ⟨g, s, none⟩ (.bool true))) := Lib.hid (HK.out.setCell (.inr hwg) _)
          clear HMt HSt HU HB HK HIn
          go_wp2_with fail
          refine (has9_yes _ _ _ s _ _ rfl hsn).mono ?_
          rintro e w' ⟨rfl, rfl⟩
          go_wp2
          generalize w'.setCell ⟨g, s, none⟩ (.bool true) = w7 at *
          clear d1 d2 f2
          go_wp2
          go_roundw
          case rel => exact ⟨t + 1, by omega, by go_num, HB2, HU2, HK2⟩
          case measure => simp [intOf]; omega
      · have HF : Hid (¬ unlP n m f) := Lib.hid (fun h => hin (h t hlt).1)
        have hout : f t < 0 ∨ (0 ≤ f t ∧ (n : Int) ≤ f t) := by omega
        generalize f t = z at *
        clear hin
        go_wp2_with fail
        refine (has9_no _ _ _ _ _ hout).mono ?_
        rintro e w' ⟨rfl, rfl⟩
        go_wp2
        go_ret
        exact ⟨false, rfl, HK.out, Lib.hid ⟨fun h => (by cases h), fun h => absurd h HF.out⟩⟩
    · obtain rfl : m = t := by omega
      clear HB
      go_wp2
      go_ret
      exact ⟨true, rfl, HK.out, Lib.hid ⟨fun _ => HU.out, fun _ => rfl⟩⟩

set_option maxRecDepth 100000 in
set_option maxHeartbeats 2000000 in
theorem chosen9_any (A : Option Addr) (n c k : Nat) (x : Nat → Nat → GB) (A1 : Option Addr) (m c1 : Nat) (f : Nat → Int) (sel : Nat → Nat) (w : World) (hm : RdL w A n c (ofm n k x)) (h1 : RdI w A1 m c1 f) (hf : ∀ t, t < m → f t = (sel t : Int) ∧ sel t < n) (hm2 : m ≤ 255) :
    Calls Try.prog 49 #[.slice A n c, .slice A1 m c1] w (LRet (ofm m k fun t j => x (sel t) j) w) := by
  have H1 := Lib.hid h1
  have HF := Lib.hid hf
  have HM := Lib.hid hm
  have b1 := RdV.cap h1
  have b2 := RdV.most h1
  have b3 := hm.cap
  have b4 := hm.most
  unfold maxLen at b2 b4
  obtain ⟨i1, hj0, hy0, hy1, hy2⟩ := info_parts tBinfo8
  clear h1 hf hm
  go_enter Try.func49, Try.ntmps49
  go_wp2_with (with_reducible change wpList _ _ _ (⟨_, Op.makeSlice _ _ _, _, _, _, _⟩ :: _) _ _; refine wpList_make_vals rfl (.tmp 9) (.tmp 9) 24 rfl 38 i1 (.slice none 0 0) rfl Try.underlying24 hj0 hy0 hy1 _ _ _ _ m rfl rfl rfl rfl (by rw [hy2]; omega) (by simp only [maxLen]; omega) ?_)
  intro w1 hB1 hK1
  obtain ⟨R, hR⟩ : ∃ R, R = w.heap.size := ⟨_, rfl⟩
  rw [← hR] at hB1 ⊢
  have hwR : w.heap.size ≤ R := by omega
  have hB1' : Blk w1 R 38 (rm m fun i => if i < 0 then .slice none 0 0 else .slice none 0 0) := hB1.of_eq (rm_ext List.length_replicate (fun i hi => by rw [List.getElem?_replicate, if_pos hi]; rfl))
  have HB1 := Lib.hid hB1'
  have HK1 := Lib.hid hK1
  clear hB1 hB1' hK1 hR
  go_wp2
  go_loopw [13] (fun i wr => ∃ (t : Nat) (V : Nat → Value), t ≤ m ∧ i = .int .i64 (t : Int) ∧ Hid (Blk wr R 38 (rm m fun i => if i < t then V i else .slice none 0 0)) ∧ Hid (∀ i, i < t → TxtV w (V i) (rm k fun j => (x (sel i) j).v)) ∧ Hid (Kept [] w wr)) (fun i _ => m - (intOf i).toNat)
  case atStart => exact ⟨0, fun _ => .slice none 0 0, by omega, rfl, HB1, Lib.hid (fun i h => by omega), HK1⟩
  case round =>
    clear HB1 HK1
    obtain ⟨t, V, ht, rfl, HB, HV, HK⟩ := hrel
    by_cases hlt : t < m
    · obtain ⟨bi, oi, rfl, hbi, d0⟩ := (H1.out.kept0 HK.out).at_ hlt
      obtain ⟨hft, hsn⟩ := HF.out t hlt
      rw [hft] at d0
      obtain ⟨s, hs⟩ : ∃ s, s = sel t := ⟨_, rfl⟩
      rw [← hs] at d0 hsn
      obtain ⟨b, off, Aj, nj, cj, l, rfl, hb, d1, g1, r1⟩ := HM.out.at_ hsn
      rw [ofm_get hsn] at g1
      obtain rfl := Option.some.inj g1
      have d1' := (HK.out.cell (p := ⟨b, off + s, none⟩) hb (by simp)).trans d1
      have d2 : wr.cell? ⟨R, t, none⟩ = some (.slice none 0 0) := by rw [HB.out.cell, rm_get hlt, if_neg (by omega)]
      have f2 := HB.out.frz t
      have HB7 : Hid (Blk (wr.setCell ⟨R, t, none⟩ (.slice Aj nj cj)) R 38 (rm m fun i => if i < t + 1 then (if i = t then .slice Aj nj cj else V i) else .slice none 0 0)) := Lib.hid (by
        refine (HB.out.set t (.slice Aj nj cj)).of_eq ?_
        rw [rm_set]
        refine rm_congr fun i hi => ?_
        by_cases e : i = t
        · rw [if_pos e, if_pos (by omega), if_pos e]
        · rw [if_neg e, if_neg e]
          by_cases e2 : i < t
          · rw [if_pos e2, if_pos (by omega)]
          · rw [if_neg e2, if_neg (by omega)])
      have HV7 : Hid (∀ i, i < t + 1 → TxtV w (if i = t then .slice Aj nj cj else V i) (rm k fun j => (x (sel i) j).v)) := Lib.hid (fun i hi => by
        by_cases e : i = t
        · rw [if_pos e, e, ← hs]
          exact ⟨_, _, _, rfl, r1⟩
        · rw [if_neg e]
          exact HV.out i (by omega))
      have HK7 : Hid (Kept [] w (wr.setCell ⟨R, t, none⟩ (.slice Aj nj cj))) := Lib.hid (HK.out.setCell (.inr hwR) _)
      clear d1 g1 r1 hb hs hft HB HV HK
      go_wp2
      generalize wr.setCell ⟨R, t, none⟩ (.slice Aj nj cj) = w7 at *
      clear d0 d1' d2 f2
      go_wp2
      go_roundw
      case rel => exact ⟨t + 1, _, by omega, by go_num, HB7, HV7, HK7⟩
      case measure => simp [intOf]; omega
    · obtain rfl : m = t := by omega
      have HL : Hid (RdL wr (some ⟨R, 0, none⟩) m m (ofm m k fun t j => x (sel t) j)) := Lib.hid (by
        refine RdL.of_vals ((HB.out.of_eq (rm_congr fun i hi => if_pos hi)).rdv (rm_length _ _) (by simp only [maxLen]; omega)) (txt_rows fun i hi => ?_)
        obtain ⟨A9, n9, c9, e9, hr9⟩ := HV.out i hi
        exact ⟨A9, n9, c9, e9, hr9.kept0 HK.out⟩)
      clear HB HV
      go_wp2
      go_ret
      exact ⟨_, m, m, rfl, HL.out, HK.out⟩
end Go.Proofs.Ytpnpimhfakfolaa
