/-
  Contract of the function that makes a block's sixty-four words, layer 2 (sha). No statement of the seed is proved here.
-/
import Derived.Test.YtmhigipljplgdaaDoorSha2
import Derived.StillTailTactics
import Derived.RegionTactic
namespace Go.Proofs.YtmhigipljplgdaaDoor
open Go.RowKit
set_option linter.unusedVariables false

/-- The cells of a digest under way. -/
def wkc (s : St) (blk : List UInt8) (held len : Int) : List Value := wvs s.l ++ (bvs blk ++ [.int .i64 held, .int .u64 len])
theorem wkc_length (s : St) (blk : List UInt8) (held len : Int) (hb : blk.length = 64) : (wkc s blk held len).length = 74 := by simp [wkc, wvs, bvs, St.l, hb]

theorem wkc_block (s : St) (blk : List UInt8) (held len : Int) (j : Nat) (hb : blk.length = 64) (hj : j ≤ 64) : ((wkc s blk held len).drop (8 + j)).take (64 - j) = bvs (blk.drop j) := by
  have e8 : (wvs s.l).length = 8 := rfl
  rw [wkc, List.drop_append, List.drop_of_length_le (by omega), List.nil_append, e8, Nat.add_sub_cancel_left, List.drop_append_of_le_length (by rw [bvs_length]; omega)]
  rw [List.take_append_of_le_length (by rw [List.length_drop, bvs_length]; omega), List.take_of_length_le (by rw [List.length_drop, bvs_length]; omega)]
  simp [bvs, List.map_drop]
theorem arr64b : Tryd.prog.underlying 66 = some (.array 64 5) := by kernel_rfl
theorem size1b : (Tryd.prog.info? 5).map (·.size) = some 1 := by kernel_rfl
theorem size64 : (Tryd.prog.info? 81).map (·.size) = some 64 := by kernel_rfl

/-- A row of words, filled from its head on. -/
def fill0 (l : List W32) : List Value := wvs l ++ List.replicate (64 - l.length) (.int .u32 0)
theorem fill0_length (l : List W32) (h : l.length ≤ 64) : (fill0 l).length = 64 := by simp [fill0, wvs]; omega
theorem fill0_set (l : List W32) (x : W32) (h : l.length < 64) : (fill0 l).set l.length (.int .u32 (wv x)) = fill0 (l ++ [x]) := by
  unfold fill0
  rw [List.set_append_right _ _ (by rw [wvs_length]; exact Nat.le_refl _), wvs_length, Nat.sub_self]
  have e : 64 - l.length = (64 - (l ++ [x]).length) + 1 := by rw [List.length_append, List.length_singleton]; omega
  rw [e, List.replicate_succ, List.set_cons_zero, wvs_append, List.append_assoc]
  rfl
theorem fill0_get (l : List W32) (j : Nat) (h : j < l.length) : (fill0 l)[j]? = some (.int .u32 (wv (l.getD j 0))) := by
  unfold fill0
  rw [List.getElem?_append_left (by rw [wvs_length]; exact h), wvs_get l j h]
theorem fill0_full (l : List W32) (h : l.length = 64) : fill0 l = wvs l := by simp [fill0, h]

theorem zero64 : (Tryd.prog.info? 81).bind (·.zero) = some (.agg (fill0 []).toArray) := by kernel_rfl
set_option maxRecDepth 100000 in
set_option maxHeartbeats 800000 in
theorem words_any (p : Nat) (s : St) (blk : List UInt8) (held len : Int) (w : World) (hb : Blk w p 68 (wkc s blk held len)) (h64 : blk.length = 64) :
    Calls Tryd.prog 36 #[.pointer (some ⟨p, 0, none⟩)] w (AggRet (words64 blk) w) := by
  have hplt := hb.lt
  go_enter Tryd.func36, Tryd.ntmps36
  go_wp2_with (with_reducible change wpList _ _ _ (⟨_, Op.alloc _, _, _, _, _⟩ :: _) _ _; refine wpList_alloc_blk rfl 81 rfl _ zero64 ?_)
  intro w1 hR1 hk1 hs1
  go_wp2_with (with_reducible change wpList _ _ _ (⟨_, Op.alloc _, _, _, _, _⟩ :: _) _ _; refine wpList_alloc_blk rfl 81 rfl _ zero64 ?_)
  intro w2 hG2 hk2 hs2
  have hR2 := hR1.kept0 hk2
  have hK2 := hk1.andThen hk2
  clear hR1 hk1 hk2 hs2
  go_wp2
  go_loopw [8] (fun i wr => ∃ k : Nat, k ≤ 16 ∧ i = .int .i64 k ∧ Blk wr (w.heap.size + 1) 81 (fill0 (first16 blk k)) ∧ Blk wr w.heap.size 81 (fill0 []) ∧ Kept [] w wr) (fun i _ => 16 - (intOf i).toNat)
  case atStart => exact ⟨0, by omega, rfl, hG2, hR2, hK2⟩
  case round =>
    obtain ⟨k, hk, rfl, hG, hR, hK⟩ := hrel
    by_cases hlt : k < 16
    · have hbw := hb.kept0 hK
      have hrd : RdB wr (some ⟨p, 8 + 4 * k, none⟩) (64 - 4 * k) (64 - 4 * k) (blk.drop (4 * k)) := by
        refine hbw.rdb _ _ _ _ ?_ (by rw [List.length_drop]; omega) (Nat.le_refl _) (by simp only [maxLen]; omega)
        exact wkc_block s blk held len (4 * k) h64 (by omega)
      have hcut := run_cut_from (P := Tryd.prog) 66 5 64 p 8 .i64 (4 * k) (4 * (k : Int)) arr64b size1b (by omega) (by omega)
      have hl := first16_length blk k
      have hfl := fill0_length (first16 blk k) (by omega)
      have c1 := hG.cellD k (by omega)
      generalize (fill0 (first16 blk k))[k]'(by omega) = u at c1
      have f1 := hG.frz k
      have hnew := hG.set k (.int .u32 (wv (wd (blk.drop (4 * k)))))
      have hset := fill0_set (first16 blk k) (wd (blk.drop (4 * k))) (by omega)
      rw [hl] at hset
      rw [hset] at hnew
      have hRn := hR.set_other (b := w.heap.size + 1) k (.int .u32 (wv (wd (blk.drop (4 * k))))) (by omega)
      have hKn : Kept [] w (wr.setCell ⟨w.heap.size + 1, k, none⟩ (.int .u32 (wv (wd (blk.drop (4 * k)))))) := hK.setCell (by simp) _
      clear hbw hset hfl hl hR hb
      go_wp2_with fail
      refine (word_any _ _ _ _ _ hrd (by omega)).mono ?_
      rintro e w3 ⟨rfl, m, rfl⟩
      go_wp2
      go_roundw
      case rel => exact ⟨k + 1, by omega, by go_num, hnew, hRn, hKn.drewN m⟩
      case measure => simp [intOf]; omega
    · obtain rfl : k = 16 := by omega
      have hG0 : Blk wr (w.heap.size + 1) 81 (fill0 (wordsN blk 0)) := hG
      clear hG hG2 hR2 hK2
      go_wp2
      rw [show ((16 : Nat) : Int) = 16 from rfl]
      go_loopw [5] (fun i wr => ∃ j n : Nat, Hid (j = 16 + n) ∧ 16 ≤ j ∧ j ≤ 64 ∧ i = .int .i64 (j : Int) ∧ Blk wr (w.heap.size + 1) 81 (fill0 (wordsN blk n)) ∧ Blk wr w.heap.size 81 (fill0 []) ∧ Kept [] w wr) (fun i _ => 64 - (intOf i).toNat)
      case atStart => exact ⟨16, 0, Lib.hid rfl, by omega, by omega, rfl, hG0, hR, hK⟩
      case round =>
        clear hG0 hR hK
        obtain ⟨j, n, Hj, hj16, hj64, rfl, hG, hR, hK⟩ := hrel
        have hjn := Hj.out
        by_cases hlt : j < 64
        · have hl := wordsN_length blk n
          obtain ⟨a, ha⟩ : ∃ a : Nat, a = n := ⟨_, rfl⟩
          obtain ⟨b, hbb⟩ : ∃ a : Nat, a = n + 1 := ⟨_, rfl⟩
          obtain ⟨c, hc⟩ : ∃ a : Nat, a = n + 9 := ⟨_, rfl⟩
          obtain ⟨d, hd⟩ : ∃ a : Nat, a = n + 14 := ⟨_, rfl⟩
          have c16 := (hG.cell a).trans (fill0_get (wordsN blk n) a (by omega))
          have c15 := (hG.cell b).trans (fill0_get (wordsN blk n) b (by omega))
          have c7 := (hG.cell c).trans (fill0_get (wordsN blk n) c (by omega))
          have c2 := (hG.cell d).trans (fill0_get (wordsN blk n) d (by omega))
          have hx : nextW (wordsN blk n) (16 + n) = (wordsN blk n).getD a 0 + sS0 ((wordsN blk n).getD b 0) + (wordsN blk n).getD c 0 + sS1 ((wordsN blk n).getD d 0) := by
            unfold nextW
            rw [ha, hbb, hc, hd]
            rw [show 16 + n - 16 = n by omega, show 16 + n - 15 = n + 1 by omega, show 16 + n - 7 = n + 9 by omega, show 16 + n - 2 = n + 14 by omega]
          have Hx := Lib.hid hx
          clear hx
          generalize (wordsN blk n).getD a 0 = xa at c16 Hx
          generalize (wordsN blk n).getD b 0 = xb at c15 Hx
          generalize (wordsN blk n).getD c 0 = xc at c7 Hx
          generalize (wordsN blk n).getD d 0 = xd at c2 Hx
          have q16 : IntKind.i64.wrap ((j : Int) - 16) = (a : Int) := by rw [IntWalk.i64_in _ (by omega)]; omega
          have q15 : IntKind.i64.wrap ((j : Int) - 15) = (b : Int) := by rw [IntWalk.i64_in _ (by omega)]; omega
          have q7 : IntKind.i64.wrap ((j : Int) - 7) = (c : Int) := by rw [IntWalk.i64_in _ (by omega)]; omega
          have q2 : IntKind.i64.wrap ((j : Int) - 2) = (d : Int) := by rw [IntWalk.i64_in _ (by omega)]; omega
          have la : (a : Int) < 64 := by omega
          have lb : (b : Int) < 64 := by omega
          have lc : (c : Int) < 64 := by omega
          have ld : (d : Int) < 64 := by omega
          have Hl := Lib.hid hl
          clear hl ha hbb hc hd hjn
          go_wp2
          go_quiet (fail)
          have rx : ∀ x y : W32, bits .xor .u32 (wv x) (wv y) = wv (x ^^^ y) := bits_xorW
          have rw1 : ∀ x y : W32, IntKind.u32.wrap (wv x + wv y) = wv (x + y) := fun x y => (IntKind.wrap_u32' _).trans (wv_add x y)
          have rw2 : ∀ x y : W32, (wv x + wv y) % 4294967296 = wv (x + y) := wv_add
          go_wp2_with fail
          refine (turn_at _ 7 _ _ rfl (by omega) (by omega)).mono ?_
          rintro e w' ⟨rfl, m1, rfl⟩
          go_wp2_with fail
          refine (turn_at _ 18 _ _ rfl (by omega) (by omega)).mono ?_
          rintro e w' ⟨rfl, m2, rfl⟩
          go_wp2_with fail
          refine (turn_at _ 17 _ _ rfl (by omega) (by omega)).mono ?_
          rintro e w' ⟨rfl, m3, rfl⟩
          go_wp2_with fail
          refine (turn_at _ 19 _ _ rfl (by omega) (by omega)).mono ?_
          rintro e w' ⟨rfl, m4, rfl⟩
          have hfl := fill0_length (wordsN blk n) (by have := Hl.out; have := Hj.out; omega)
          go_wp2
          rw [wv_shr3 xb, wv_shr10 xd, rx, rx]
          obtain ⟨wq, hwq⟩ : ∃ wq, wq = wr.drewN (nq + m1 + m2 + m3 + m4) := ⟨_, rfl⟩
          have hGq : Blk wq (w.heap.size + 1) 81 (fill0 (wordsN blk n)) := by rw [hwq]; exact hG
          have hRq : Blk wq w.heap.size 81 (fill0 []) := by rw [hwq]; exact hR
          have hKq : Kept [] w wq := by rw [hwq]; exact hK.drewN _
          have d16 : wq.cell? ⟨w.heap.size + 1, a, none⟩ = some (.int .u32 (wv xa)) := by rw [hwq]; exact c16
          have d7 : wq.cell? ⟨w.heap.size + 1, c, none⟩ = some (.int .u32 (wv xc)) := by rw [hwq]; exact c7
          rw [← hwq]
          have f1 := hGq.frz j
          have cj := hGq.cellD j (by omega)
          generalize (fill0 (wordsN blk n))[j]'(by omega) = u at cj
          clear hwq hG hR hK c16 c15 c7 c2 hfl
          have hset := fill0_set (wordsN blk n) (xa + sS0 xb + xc + sS1 xd) (by have := Hl.out; have := Hj.out; omega)
          rw [Hl.out, ← Hj.out] at hset
          have hnew := hGq.set j (.int .u32 (wv (xa + sS0 xb + xc + sS1 xd)))
          rw [hset] at hnew
          have hRn := hRq.set_other (b := w.heap.size + 1) j (.int .u32 (wv (xa + sS0 xb + xc + sS1 xd))) (by omega)
          have hKn : Kept [] w (wq.setCell ⟨w.heap.size + 1, j, none⟩ (.int .u32 (wv (xa + sS0 xb + xc + sS1 xd)))) := hKq.setCell (by simp) _
          clear hset
          go_still_tail 15, (by kernel_rfl)
          change wpList _ _ _ _ _ wq.drew
          go_wp2
          go_roundw
          case rel => exact ⟨j + 1, n + 1, Lib.hid (by have := Hj.out; omega), by omega, by omega, by go_num, by rw [wordsN, Hx.out]; exact hnew, hRn, hKn.drewN 1⟩
          case measure => simp [intOf]; omega
        · obtain rfl : n = 48 := by omega
          have hl := words64_length blk
          rw [← words64_eq] at hG
          rw [fill0_full _ hl] at hG
          have hwl := wvs_length (words64 blk)
          rw [hl] at hwl
          have hone := wvs_one (words64 blk)
          obtain ⟨L, hL⟩ : ∃ L, L = wvs (words64 blk) := ⟨_, rfl⟩
          rw [← hL] at hG hwl hone
          have HL := Lib.hid hL
          have hi : (Tryd.prog.info? 81).map (·.size) = some L.length := by rw [hwl]; exact size64
          have H := Lib.hid hi
          have H2 := Lib.hid hwl
          have H3 := Lib.hid hone
          clear hl hwl hi hone hL
          go_wp2_with (first
            | (with_reducible change wpList _ _ _ (⟨_, Op.load _ _, _, _, _, _⟩ :: _) _ _; refine wpList_load_blk rfl 81 (.tmp 3) rfl (w.heap.size + 1) rfl 81 L _ hG Tryd.underlying81 rfl H.out ?_)
            | (with_reducible change wpList _ _ _ (⟨_, Op.store _ _ _, _, _, _, _⟩ :: _) _ _; refine wpList_store_blk rfl 81 (.tmp 2) (.tmp 64) rfl w.heap.size L rfl rfl 81 (fill0 []) hR H.out (by rw [H2.out]; exact fill0_length [] (by simp)) H3.out ?_))
          intro w5 hR5 hk5 hs5
          go_wp2
          refine bodyPost_ret (results_blk rfl _ w.heap.size 81 _ _ rfl hR5 Tryd.underlying81 rfl H.out) rfl ?_
          exact ⟨by rw [HL.out], hK.trans hk5 (by simp)⟩
end Go.Proofs.YtmhigipljplgdaaDoor
