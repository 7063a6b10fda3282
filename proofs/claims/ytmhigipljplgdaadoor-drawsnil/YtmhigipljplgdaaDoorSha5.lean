/-
  Contract of the function that takes a text into a digest under way, layer 2 (sha). No statement of the seed is proved here.
-/
import Derived.Test.YtmhigipljplgdaaDoorSha5m
namespace Go.Proofs.YtmhigipljplgdaaDoor
open Go.RowKit
set_option linter.unusedVariables false

def slen : Value → Nat
  | .slice _ n _ => n
  | _ => 0
/-- What taking a text leaves. -/
def TakeRet (p : Nat) (bs : List UInt8) (L : Nat) (w : World) (e : Ending) (w' : World) : Prop := e = .returned (.tuple #[]) ∧ WkL w' p 68 bs L ∧ Kept [p] w w'

set_option maxRecDepth 100000 in
set_option maxHeartbeats 4000000 in
theorem take_any (p : Nat) (bs t : List UInt8) (L : Nat) (A : Option Addr) (n c : Nat) (w : World) (hW : WkL w p 68 bs L) (hr : RdB w A n c t) (ho : 0 < n → Off A [p]) (hgl : Glob w) (hp : 0 < p ∧ 1 < p) (hL : L + n < 1099511627776) :
    Calls Tryd.prog 26 #[.pointer (some ⟨p, 0, none⟩), .slice A n c] w (TakeRet p (bs ++ t) (L + n) w) := by
  obtain ⟨blk0, hl0, hB0, hw0⟩ := hW
  have c73 := (hB0.cell 73).trans (wkc_len _ _ _ _ hl0)
  have f73 := hB0.frz 73
  have hB1 := hB0.set 73 (.int .u64 ((L : Int) + (n : Int)))
  rw [wkc_set_len _ _ _ _ _ hl0] at hB1
  have hK1 : Kept [p] w (w.setCell ⟨p, 73, none⟩ (.int .u64 ((L : Int) + (n : Int)))) := (Kept.refl [p] w).setCell (by simp) _
  have hr1 := hr.keptIf hK1 ho
  have hg1 := hgl.kept hK1 (by simp; omega) (by simp; omega)
  have H0 := Lib.hid hw0
  clear hw0 hB0
  go_enter Tryd.func26, Tryd.ntmps26
  go_wp2
  go_loopw [1] (fun v wr => ∃ (A' : Option Addr) (r c' : Nat) (dn ts : List UInt8), v = .slice A' r c' ∧ RdB wr A' r c' ts ∧ Hid (t = dn ++ ts) ∧ (0 < r → Off A' [p]) ∧ WkL wr p 68 (bs ++ dn) (L + n) ∧ Glob wr ∧ Kept [p] w wr) (fun v _ => slen v)
  case atStart => exact ⟨A, n, c, [], t, rfl, hr1, Lib.hid rfl, ho, ⟨blk0, hl0, by rw [List.append_nil]; exact hB1, by rw [List.append_nil]; exact H0.out⟩, hg1, hK1⟩
  case round =>
    clear c73 f73 hB1 hK1 hr1 hg1 H0 ho hr hgl
    obtain ⟨A', r, c', dn, ts, rfl, hr, Ht, ho, ⟨blk, hl, hB, hw⟩, hg, hK⟩ := hrel
    have Hl := Lib.hid hr.len
    have hcm := hr.cap
    have hcx := hr.most
    unfold maxLen at hcx
    by_cases hpos : 0 < r
    · have hlt : (bs ++ dn).length % 64 < 64 := Nat.mod_lt _ (by omega)
      have Hw := Lib.hid hw
      clear hw
      generalize hq : (bs ++ dn).length % 64 = h at *
      have Hq := Lib.hid hq
      clear hq
      obtain ⟨m, hm⟩ : ∃ m, m = min r (64 - h) := ⟨_, rfl⟩
      have Hm := Lib.hid hm
      have hm1 : m ≤ r := by omega
      have hm2 : h + m ≤ 64 := by omega
      have hm3 : 0 < m := by omega
      have c72 := (hB.cell 72).trans (wkc_held _ _ _ _ hl)
      have f72 := hB.frz 72
      have hcutA := run_cut_from (P := Tryd.prog) 66 5 64 p 8 .i64 h (h : Int) arr64b size1b rfl hlt
      obtain ⟨A2, hr2, ho2, hcutB⟩ := hr.cutFrom (P := Tryd.prog) 53 5 Tryd.underlying53 size1b m (m : Int) rfl hm1
      have hwl := wkc_length (run st0 (bs ++ dn)) blk h ((L + n : Nat) : Int) hl
      clear hm
      go_wp2
      go_still_tail 9, (by kernel_rfl)
      change wpList _ _ _ _ _ wr.drew
      have hBD := hB.drew
      have hrD := hr.drew
      have hr2D := hr2.drew
      have hgD : Glob wr.drew := hg
      have hKD := hK.drew
      clear c72 f72 hB hr hr2 hg hK
      generalize wr.drew = wd at *
      refine wpList_copy_blk rfl (.tmp 25) (.tmp 26) 53 rfl 5 Tryd.underlying53 size1b p (8 + h) (64 - h) (64 - h) A' r c' ts rfl rfl hrD hpos 68 _ hBD m Hm.out (by rw [hwl]; omega) ?_
      intro w2 hB2 hk2
      have hul : (ts.take m).length = m := by rw [List.length_take]; have := Hl.out; omega
      rw [wkc_splice _ _ _ _ _ _ hl (by omega)] at hB2
      have hl2 : (splice blk h (ts.take m)).length = 64 := by rw [splice_len _ _ _ (by omega)]; exact hl
      have hst := splice_take blk h (ts.take m) (by omega)
      rw [hul, Hw.out] at hst
      have Hst := Lib.hid hst
      have Hul := Lib.hid hul
      clear hst hul
      have hr3 := hr2D.keptIf hk2 (fun _ => ho2 _ (ho hpos))
      have hg3 := hgD.kept hk2 (by simp; omega) (by simp; omega)
      have hK3 : Kept [p] w w2 := hKD.trans hk2 (fun i hi => .inl hi)
      clear hr2D hgD hKD hBD hrD hk2 hwl
      generalize splice blk h (ts.take m) = blk2 at *
      have c72 := (hB2.cell 72).trans (wkc_held _ _ _ _ hl2)
      have f72 := hB2.frz 72
      have hB4 := hB2.set 72 (.int .i64 ((h : Int) + (m : Int)))
      rw [wkc_set_held _ _ _ _ _ hl2] at hB4
      have hk4 : Kept [p] w2 (w2.setCell ⟨p, 72, none⟩ (.int .i64 ((h : Int) + (m : Int)))) := (Kept.refl [p] w2).setCell (by simp) _
      have d72 := (hB4.cell 72).trans (wkc_held _ _ _ _ hl2)
      have hr4 := hr3.keptIf hk4 (fun _ => ho2 _ (ho hpos))
      have hg4 := hg3.kept hk4 (by simp; omega) (by simp; omega)
      have hK4 : Kept [p] w (w2.setCell ⟨p, 72, none⟩ (.int .i64 ((h : Int) + (m : Int)))) := hK3.trans hk4 (fun i hi => .inl hi)
      have Hlen : Hid ((bs ++ dn ++ ts.take m).length = (bs ++ dn).length + m) := by show _ = _; rw [List.length_append, Hul.out]
      clear hB2 hr3 hg3 hK3 hk4
      by_cases hful : h + m = 64
      · have he : ((h : Int) + (m : Int) == 64) = true := by simp; omega
        have Hfull : Hid (run st0 (bs ++ (dn ++ ts.take m)) = mixB (run st0 (bs ++ dn)) blk2 ∧ (bs ++ (dn ++ ts.take m)).length % 64 = 0 ∧ waits (bs ++ (dn ++ ts.take m)) = []) := by
          have h1 := Hul.out
          have h2 := Hq.out
          have h3 := Hst.out
          rw [hful, List.take_of_length_le (by omega)] at h3
          refine ⟨?_, ?_, ?_⟩
          · rw [← List.append_assoc, run_full _ _ _ (by omega), h3]; rfl
          · rw [← List.append_assoc, List.length_append]; omega
          · rw [← List.append_assoc]; exact waits_full _ _ (by omega)
        go_wp2_with fail
        refine (mix_any p _ blk2 _ _ _ hB4 hl2 hg4 hp).mono ?_
        rintro e w5 ⟨rfl, hB5, hk5⟩
        have hr5 := hr4.keptIf hk5 (fun _ => ho2 _ (ho hpos))
        have hg5 := hg4.kept hk5 (by simp; omega) (by simp; omega)
        have hK5 : Kept [p] w w5 := hK4.trans hk5 (fun i hi => .inl hi)
        clear hB4 hr4 hg4 hK4 hk5 c72 f72 d72
        have c72 := (hB5.cell 72).trans (wkc_held _ _ _ _ hl2)
        have f72 := hB5.frz 72
        have hB6 := hB5.set 72 (.int .i64 0)
        rw [wkc_set_held _ _ _ _ _ hl2] at hB6
        have hk6 : Kept [p] w5 (w5.setCell ⟨p, 72, none⟩ (.int .i64 0)) := (Kept.refl [p] w5).setCell (by simp) _
        have hr6 := hr5.keptIf hk6 (fun _ => ho2 _ (ho hpos))
        have hg6 := hg5.kept hk6 (by simp; omega) (by simp; omega)
        have hK6 : Kept [p] w (w5.setCell ⟨p, 72, none⟩ (.int .i64 0)) := hK5.trans hk6 (fun i hi => .inl hi)
        clear hB5 hr5 hg5 hK5 hk6
        go_wp2
        go_roundw
        case rel =>
          obtain ⟨e1, e2, e3⟩ := Hfull.out
          refine ⟨A2, r - m, c' - m, dn ++ ts.take m, ts.drop m, rfl, hr6, Lib.hid (by rw [Ht.out, List.append_assoc, List.take_append_drop]), fun _ => ho2 _ (ho hpos), ⟨blk2, hl2, ?_, ?_⟩, hg6, hK6⟩
          · rw [e1, e2]; exact hB6
          · rw [e2, e3]; rfl
        case measure => simp [slen]; omega
      · have he : ((h : Int) + (m : Int) == 64) = false := by simp; omega
        have Hmore : Hid (run st0 (bs ++ (dn ++ ts.take m)) = run st0 (bs ++ dn) ∧ (bs ++ (dn ++ ts.take m)).length % 64 = h + m ∧ waits (bs ++ (dn ++ ts.take m)) = waits (bs ++ dn) ++ ts.take m) := by
          have h1 := Hul.out
          have h2 := Hq.out
          refine ⟨?_, ?_, ?_⟩
          · rw [← List.append_assoc, run_more _ _ _ (by omega)]
          · rw [← List.append_assoc, List.length_append]; omega
          · rw [← List.append_assoc]; exact waits_more _ _ (by omega)
        go_wp2
        go_roundw
        case rel =>
          obtain ⟨e1, e2, e3⟩ := Hmore.out
          refine ⟨A2, r - m, c' - m, dn ++ ts.take m, ts.drop m, rfl, hr4, Lib.hid (by rw [Ht.out, List.append_assoc, List.take_append_drop]), fun _ => ho2 _ (ho hpos), ⟨blk2, hl2, ?_, ?_⟩, hg4, hK4⟩
          · rw [e1, e2]; exact hB4
          · rw [e2, e3]; exact Hst.out
        case measure => simp [slen]; omega
    · obtain rfl : r = 0 := by omega
      have hts : ts = [] := List.eq_nil_of_length_eq_zero Hl.out
      have hbt : bs ++ dn = bs ++ t := by rw [Ht.out, hts, List.append_nil]
      have Hbt := Lib.hid hbt
      clear hts hbt
      go_wp2
      go_end0
      exact ⟨rfl, by rw [← Hbt.out]; exact ⟨blk, hl, hB, hw⟩, hK⟩
end Go.Proofs.YtmhigipljplgdaaDoor
