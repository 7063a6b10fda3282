/-
  Contracts of layer 9 (rs): sums of texts by rows; Encode, Piece. No statement of the seed is proved here.
-/
import Derived.Test.YtpnpimhfakfolaaRs2
import Derived.Test.YtpnpimhfakfolaaR8l
import Derived.Deep.RegionHeld3
namespace Go.Proofs.Ytpnpimhfakfolaa
open Go.RowKit
set_option linter.unusedVariables false

theorem gSum_ofm {k N : Nat} (hk : 1 ≤ k) (a : Nat → GB) (x : Nat → Nat → GB) : gSumV (rm k fun j => (a j).v) (ofm k N x) = rm N (fun c => (fsm k (fun l => a l * x l c)).v) ∧ gSumE (rm k fun j => (a j).v) (ofm k N x) = 0 := by
  have h : (rm k fun j => (a j).v).length = (ofm k N x).length ∧ one1 (ofm k N x) = true := ⟨by rw [rm_length, ofm_length], one1_ofm k N x⟩
  unfold gSumV gSumE
  rw [if_pos h, if_pos h]
  have h0 : (ofm k N x).getD 0 [] = rm N (fun c => (x 0 c).v) := by unfold ofm; exact rm_getD _ _ (by omega)
  rw [h0, rm_length]
  exact ⟨gsum_ofm a x, rfl⟩
/-- A sum of texts, told as a row of a product. -/
theorem sum9_any (p k N : Nat) (hk : 1 ≤ k) (hN : N ≤ 1000000) (a : Nat → GB) (x : Nat → Nat → GB) (A : Option Addr) (n c : Nat) (A' : Option Addr) (n' c' : Nat) (w : World) (hT : TabAt w p) (hr : RdB w A n c (rm k fun j => (a j).v)) (hl : RdL w A' n' c' (ofm k N x)) :
    Calls Try.prog 32 #[.pointer (some ⟨p, 0, none⟩), .slice A n c, .slice A' n' c'] w (SumRet (rm N fun c => (fsm k (fun l => a l * x l c)).v) 0 w) := by
  have h := sum7_any p A n c _ A' n' c' _ w hT hr hl (fun l hl => by rw [ofm_mem l hl]; exact hN)
  rw [(gSum_ofm hk a x).1, (gSum_ofm hk a x).2] at h
  exact h
/-- Bytes lie in no block of slices. -/
theorem RdB.offV {w : World} {A : Option Addr} {n c : Nat} {bs : List UInt8} {R : Nat} {t : TypeId} {cs : List Value} (h : RdB w A n c bs) (hB : Blk w R t cs) (hc : ∀ u ∈ cs, ∃ A n c, u = .slice A n c) (hn : 0 < n) : Off A [R] := by
  obtain ⟨b, off, e, hb, hx⟩ := h.at_ hn
  have hl := h.len
  intro a ha hin
  rw [e] at ha
  injection ha with ha
  subst ha
  have hbR : b = R := by simpa using hin
  subst hbR
  have h0 := hx 0 (by omega)
  rw [hB.cell] at h0
  obtain ⟨A', n', c', e'⟩ := hc _ (List.mem_of_getElem? h0)
  unfold bcell at e'
  cases e'

set_option maxRecDepth 100000 in
set_option maxHeartbeats 2000000 in
theorem sums9_any (q n k p : Nat) (A : Option Addr) (c : Nat) (A1 : Option Addr) (r c1 : Nat) (a : Nat → Nat → GB) (A2 : Option Addr) (n2 c2 N : Nat) (x : Nat → Nat → GB) (w : World) (hc : CodeAt w q n k p A c) (h1 : RdL w A1 r c1 (ofm r k a)) (h2 : RdL w A2 n2 c2 (ofm k N x)) (hN : N ≤ 1000000) (hr : r ≤ 255) :
    Calls Try.prog 28 #[.pointer (some ⟨q, 0, none⟩), .slice A1 r c1, .slice A2 n2 c2] w (LRet2 (ofm r N (mm k a x)) 0 w) := by
  have HC := Lib.hid hc
  have H1 := Lib.hid h1
  have H2 := Lib.hid h2
  have hk1 := hc.k1
  have b1 := h1.cap
  have b2 := h1.most
  unfold maxLen at b2
  obtain ⟨i1, hj0, hy0, hy1, hy2⟩ := info_parts tBinfo8
  clear hc h1 h2
  go_enter Try.func28, Try.ntmps28
  go_wp2_with (with_reducible change wpList _ _ _ (⟨_, Op.makeSlice _ _ _, _, _, _, _⟩ :: _) _ _; refine wpList_make_vals rfl (.tmp 14) (.tmp 14) 24 rfl 38 i1 (.slice none 0 0) rfl Try.underlying24 hj0 hy0 hy1 _ _ _ _ r rfl rfl rfl rfl (by rw [hy2]; omega) (by simp only [maxLen]; omega) ?_)
  intro w1 hB1 hK1
  obtain ⟨R, hR⟩ : ∃ R, R = w.heap.size := ⟨_, rfl⟩
  rw [← hR] at hB1 ⊢
  have hwR : w.heap.size ≤ R := by omega
  have hB1' : Blk w1 R 38 (rm r fun i => if i < 0 then .slice none 0 0 else .slice none 0 0) := hB1.of_eq (rm_ext List.length_replicate (fun i hi => by rw [List.getElem?_replicate, if_pos hi]; rfl))
  have HB1 := Lib.hid hB1'
  have HK1 := Lib.hid hK1
  clear hB1 hB1' hK1 hR
  go_wp2
  go_loopw [18] (fun i wr => ∃ (t : Nat) (V : Nat → Value), t ≤ r ∧ i = .int .i64 (t : Int) ∧ Hid (Blk wr R 38 (rm r fun i => if i < t then V i else .slice none 0 0)) ∧ Hid (∀ i, i < t → TxtV wr (V i) (rm N fun c => (mm k a x i c).v)) ∧ Hid (Kept [] w wr)) (fun i _ => r - (intOf i).toNat)
  case atStart => exact ⟨0, fun _ => .slice none 0 0, by omega, rfl, HB1, Lib.hid (fun i h => by omega), HK1⟩
  case round =>
    clear HB1 HK1
    obtain ⟨t, V, ht, rfl, HB, HV, HK⟩ := hrel
    by_cases hlt : t < r
    · obtain ⟨b, off, Aj, nj, cj, l, rfl, hb, d1, g1, r1⟩ := H1.out.at_ hlt
      rw [ofm_get hlt] at g1
      obtain rfl := Option.some.inj g1
      have d1' := (HK.out.cell (p := ⟨b, off + t, none⟩) hb (by simp)).trans d1
      have e1 := (HC.out.kept0 HK.out).tab
      have HS := Lib.hid (sum9_any p k N hk1 hN (a t) x Aj nj cj A2 n2 c2 wr (HC.out.kept0 HK.out).tabs (r1.kept0 HK.out) (H2.out.kept0 HK.out))
      clear d1 g1 r1 hb
      go_wp2_with fail
      refine HS.out.mono ?_
      rintro e w6 ⟨A6, n6, c6, rfl, hr6, hk6⟩
      have hB6 := HB.out.kept0 hk6
      have d2 : w6.cell? ⟨R, t, none⟩ = some (.slice none 0 0) := by rw [hB6.cell, rm_get hlt, if_neg (by omega)]
      have f2 := hB6.frz t
      obtain ⟨w7, hw7⟩ : ∃ w7, w7 = w6.setCell ⟨R, t, none⟩ (.slice A6 n6 c6) := ⟨_, rfl⟩
      have hk7 : Kept [R] w6 w7 := by rw [hw7]; exact (Kept.refl [R] w6).setCell (.inl (by simp)) _
      have hcs : ∀ u ∈ (rm r fun i => if i < t then V i else Value.slice none 0 0), ∃ A n c, u = .slice A n c := by
        intro u hu
        unfold rm at hu
        simp only [List.mem_map, List.mem_range] at hu
        obtain ⟨j, hj, rfl⟩ := hu
        split
        · rename_i hjt
          obtain ⟨A, n, c, e, _⟩ := HV.out j hjt
          exact ⟨A, n, c, e⟩
        · exact ⟨_, _, _, rfl⟩
      have HB7 : Hid (Blk w7 R 38 (rm r fun i => if i < t + 1 then (if i = t then .slice A6 n6 c6 else V i) else .slice none 0 0)) := Lib.hid (by
        rw [hw7]
        refine (hB6.set t (.slice A6 n6 c6)).of_eq ?_
        rw [rm_set]
        refine rm_congr fun i hi => ?_
        by_cases e : i = t
        · rw [if_pos e, if_pos (by omega), if_pos e]
        · rw [if_neg e, if_neg e]
          by_cases e2 : i < t
          · rw [if_pos e2, if_pos (by omega)]
          · rw [if_neg e2, if_neg (by omega)])
      have HV7 : Hid (∀ i, i < t + 1 → TxtV w7 (if i = t then .slice A6 n6 c6 else V i) (rm N fun c => (mm k a x i c).v)) := Lib.hid (fun i hi => by
        by_cases e : i = t
        · rw [if_pos e, e]
          exact ⟨_, _, _, rfl, hr6.keptIf hk7 (hr6.offV hB6 hcs)⟩
        · rw [if_neg e]
          obtain ⟨A9, n9, c9, e9, hr9⟩ := HV.out i (by omega)
          have hr9' := hr9.kept0 hk6
          exact ⟨_, _, _, e9, hr9'.keptIf hk7 (hr9'.offV hB6 hcs)⟩)
      have HK7 : Hid (Kept [] w w7) := Lib.hid ((HK.out.andThen hk6).trans hk7 (by simp; omega))
      clear hcs hk7 hB6 hk6 hr6 HB HV HK HS d1' e1
      go_wp2
      rw [← hw7]
      clear hw7 d2 f2
      go_wp2
      go_roundw
      case rel => exact ⟨t + 1, _, by omega, by go_num, HB7, HV7, HK7⟩
      case measure => simp [intOf]; omega
    · obtain rfl : r = t := by omega
      have HL : Hid (RdL wr (some ⟨R, 0, none⟩) r r (ofm r N (mm k a x))) := Lib.hid (by
        refine RdL.of_vals ((HB.out.of_eq (rm_congr fun i hi => if_pos hi)).rdv (rm_length _ _) (by simp only [maxLen]; omega)) (txt_rows fun i hi => HV.out i hi))
      clear HB HV
      go_wp2
      go_ret2
      exact ⟨_, r, r, rfl, HL.out, HK.out⟩

theorem encode9_nil (A : Option Addr) (n c : Nat) (w : World) : Calls Try.prog 14 #[.pointer none, .slice A n c] w fun e w' => e = .returned (.tuple #[.slice none 0 0, .int .i64 15]) ∧ w' = w := by
  go_enter Try.func14, Try.ntmps14
  go_wp2
  go_ret2
  exact ⟨rfl, rfl⟩
theorem encode9_no (q n k p : Nat) (A : Option Addr) (c : Nat) (A' : Option Addr) (n' c' : Nat) (ls : List (List UInt8)) (w : World) (hc : CodeAt w q n k p A c) (hl : RdL w A' n' c' ls) (h : tkn k ls = false) :
    Calls Try.prog 14 #[.pointer (some ⟨q, 0, none⟩), .slice A' n' c'] w (LRet2 [] 14 w) := by
  have HT := Lib.hid (takes9_any q n k p A c A' n' c' ls w hc hl)
  rw [h] at HT
  clear hc hl h
  go_enter Try.func14, Try.ntmps14
  go_wp2_with fail
  refine HT.out.mono ?_
  rintro e w' ⟨rfl, rfl⟩
  go_wp2
  go_ret2
  exact ⟨none, 0, 0, rfl, RdL.nil _, Kept.refl _ _⟩
theorem tkn_ofm (k N : Nat) (x : Nat → Nat → GB) : tkn k (ofm k N x) = true := by
  unfold tkn
  rw [ofm_length, one1_ofm, decide_eq_true rfl]; rfl
theorem encode9_any (q n k p : Nat) (A : Option Addr) (c : Nat) (A' : Option Addr) (n' c' N : Nat) (x : Nat → Nat → GB) (w : World) (hc : CodeAt w q n k p A c) (hl : RdL w A' n' c' (ofm k N x)) (hN : N ≤ 1000000) :
    Calls Try.prog 14 #[.pointer (some ⟨q, 0, none⟩), .slice A' n' c'] w (LRet2 (pcs k n N x) 0 w) := by
  have HT := Lib.hid (takes9_any q n k p A c A' n' c' _ w hc hl)
  rw [tkn_ofm] at HT
  have c1 := hc.rows
  have HS := Lib.hid (sums9_any q n k p A c A n c (rsr k) A' n' c' N x w hc hc.mat hl hN hc.n255)
  clear hc hl
  go_enter Try.func14, Try.ntmps14
  go_wp2_with fail
  refine HT.out.mono ?_
  rintro e w' ⟨rfl, rfl⟩
  go_wp2_with fail
  refine HS.out.mono ?_
  rintro e w2 ⟨A2, n2, c2, rfl, hr, hk⟩
  go_wp2
  go_ret2
  exact ⟨A2, n2, c2, rfl, hr, hk⟩

theorem piece9_nil (A : Option Addr) (n c : Nat) (z : Int) (w : World) : Calls Try.prog 17 #[.pointer none, .slice A n c, .int .i64 z] w fun e w' => e = .returned (.tuple #[.slice none 0 0, .int .i64 15]) ∧ w' = w := by
  go_enter Try.func17, Try.ntmps17
  go_wp2
  go_ret2
  exact ⟨rfl, rfl⟩
theorem piece9_no (q n k p : Nat) (A : Option Addr) (c : Nat) (A' : Option Addr) (n' c' : Nat) (ls : List (List UInt8)) (z : Int) (w : World) (hc : CodeAt w q n k p A c) (hl : RdL w A' n' c' ls) (h : tkn k ls = false) :
    Calls Try.prog 17 #[.pointer (some ⟨q, 0, none⟩), .slice A' n' c', .int .i64 z] w (SumRet [] 14 w) := by
  have HT := Lib.hid (takes9_any q n k p A c A' n' c' ls w hc hl)
  rw [h] at HT
  clear hc hl h
  go_enter Try.func17, Try.ntmps17
  go_wp2_with fail
  refine HT.out.mono ?_
  rintro e w' ⟨rfl, rfl⟩
  go_wp2
  go_ret2
  exact ⟨none, 0, 0, rfl, RdB.nil _, Kept.refl _ _⟩
theorem piece9_range (q n k p : Nat) (A : Option Addr) (c : Nat) (A' : Option Addr) (n' c' N : Nat) (x : Nat → Nat → GB) (z : Int) (w : World) (hc : CodeAt w q n k p A c) (hl : RdL w A' n' c' (ofm k N x)) (h : z < 0 ∨ (0 ≤ z ∧ (n : Int) ≤ z)) :
    Calls Try.prog 17 #[.pointer (some ⟨q, 0, none⟩), .slice A' n' c', .int .i64 z] w (SumRet [] 3 w) := by
  have HT := Lib.hid (takes9_any q n k p A c A' n' c' _ w hc hl)
  rw [tkn_ofm] at HT
  have c1 := hc.rows
  clear hc hl
  go_enter Try.func17, Try.ntmps17
  go_wp2_with fail
  refine HT.out.mono ?_
  rintro e w' ⟨rfl, rfl⟩
  go_wp2_with fail
  refine (has9_no _ _ _ _ _ h).mono ?_
  rintro e w' ⟨rfl, rfl⟩
  go_wp2
  go_ret2
  exact ⟨none, 0, 0, rfl, RdB.nil _, Kept.refl _ _⟩
set_option maxHeartbeats 1000000 in
theorem piece9_any (q n k p : Nat) (A : Option Addr) (c : Nat) (A' : Option Addr) (n' c' N i : Nat) (x : Nat → Nat → GB) (z : Int) (w : World) (hc : CodeAt w q n k p A c) (hl : RdL w A' n' c' (ofm k N x)) (hN : N ≤ 1000000) (hz : z = (i : Int)) (hi : i < n) :
    Calls Try.prog 17 #[.pointer (some ⟨q, 0, none⟩), .slice A' n' c', .int .i64 z] w (SumRet (rm N fun c => (mm k (rsr k) x i c).v) 0 w) := by
  subst hz
  have HT := Lib.hid (takes9_any q n k p A c A' n' c' _ w hc hl)
  rw [tkn_ofm] at HT
  obtain ⟨b, off, Aj, nj, cj, l, rfl, hb, d1, g1, r1⟩ := hc.mat.at_ hi
  rw [ofm_get hi] at g1
  obtain rfl := Option.some.inj g1
  have c1 := hc.rows
  have HC := Lib.hid hc
  have HL := Lib.hid hl
  have HR := Lib.hid r1
  have hk1 := hc.k1
  have SK : Hid (∀ W, Kept [] w W → W.cell? ⟨q, 2, none⟩ = some (.pointer (some ⟨p, 0, none⟩)) ∧ W.cell? ⟨q, 0, none⟩ = some (.slice (some ⟨b, off, none⟩) n c) ∧ W.cell? ⟨b, off + i, none⟩ = some (.slice Aj nj cj)) := Lib.hid (fun W hW => ⟨(HC.out.kept0 hW).tab, (HC.out.kept0 hW).rows, (hW.cell (p := ⟨b, off + i, none⟩) hb (by simp)).trans d1⟩)
  have p1 : (0 : Int) ≤ (i : Int) := by omega
  have p2 : (i : Int) < (n : Int) := by omega
  clear hc hl d1 g1 r1 hb
  go_enter Try.func17, Try.ntmps17
  go_wp2_with fail
  refine HT.out.mono ?_
  rintro e w' ⟨rfl, rfl⟩
  go_wp2_with fail
  refine (has9_yes _ _ _ i _ _ rfl hi).mono ?_
  rintro e w' ⟨rfl, rfl⟩
  have hKc : Kept [] w' w'.drew := (Kept.refl [] w').drew
  go_wp2_with fail
  go_region_held3 (fun w' => w'.cell? ⟨q, 2, none⟩ = some (.pointer (some ⟨p, 0, none⟩)) ∧ w'.cell? ⟨q, 0, none⟩ = some (.slice (some ⟨b, off, none⟩) n c) ∧ w'.cell? ⟨b, off + i, none⟩ = some (.slice Aj nj cj))
    (first
      | exact SK.out _ hKc
      | exact SK.out _ (Kept.refl [] w').drew
      | exact SK.out _ (Kept.refl [] w'))
    (first
      | (go_at_call 32; refine (sum9_any p k N hk1 hN (rsr k i) x Aj nj cj A' n' c' _ (HC.out.kept0 hKc).tabs (HR.out.kept0 hKc) (HL.out.kept0 hKc)).mono ?_; rintro e w8 ⟨A8, n8, c8, rfl, hr8, hk8⟩; have hKc := hKc.andThen hk8))
  go_wp2
  go_ret2
  exact ⟨A8, n8, c8, rfl, hr8, hKc⟩
end Go.Proofs.Ytpnpimhfakfolaa
