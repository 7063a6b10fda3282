/-
  Contract of the function that turns a block into the state, layer 2 (sha). No statement of the seed is proved here.
-/
import Derived.Test.YtmhigipljplgdaaDoorSha3
namespace Go.Proofs.YtmhigipljplgdaaDoor
open Go.RowKit
set_option linter.unusedVariables false

/-- The two tables that lie at package level. -/
def Glob (w : World) : Prop := (∀ k, k < 8 → w.cell? ⟨0, k, none⟩ = some (.int .u32 (wv (st0.l.getD k 0)))) ∧ (∀ k, k < 64 → w.cell? ⟨1, k, none⟩ = some (.int .u32 (wv (ks.getD k 0))))
theorem Glob.lt {w : World} (h : Glob w) : 0 < w.heap.size ∧ 1 < w.heap.size := ⟨World.block_lt_of_cell? w _ (h.1 0 (by omega)), World.block_lt_of_cell? w _ (h.2 0 (by omega))⟩
theorem Glob.kept {w w' : World} {S : List Nat} (h : Glob w) (hk : Kept S w w') (h0 : 0 ∉ S) (h1 : 1 ∉ S) : Glob w' := by
  have hl := h.lt
  exact ⟨fun k hh => (hk.cell (p := ⟨0, k, none⟩) hl.1 h0).trans (h.1 k hh), fun k hh => (hk.cell (p := ⟨1, k, none⟩) hl.2 h1).trans (h.2 k hh)⟩
theorem Glob.kept0 {w w' : World} (h : Glob w) (hk : Kept [] w w') : Glob w' := h.kept hk (by simp) (by simp)

theorem size8 : (Tryd.prog.info? 65).map (·.size) = some 8 := by kernel_rfl
theorem size8w (s : St) : (Tryd.prog.info? 65).map (·.size) = some (wvs s.l).length := by
  have : (wvs s.l).length = 8 := rfl
  rw [this]; exact size8
def z8 : List Value := List.replicate 8 (.int .u32 0)
theorem zero8 : (Tryd.prog.info? 65).bind (·.zero) = some (.agg z8.toArray) := by kernel_rfl
theorem wkc_head (s : St) (blk : List UInt8) (held len : Int) : ((wkc s blk held len).drop 0).take (wvs s.l).length = wvs s.l := by simp [wkc]
theorem wkc_state (s : St) (blk : List UInt8) (held len : Int) (j : Nat) (h : j < 8) : (wkc s blk held len)[j]? = some (.int .u32 (wv (s.l.getD j 0))) := by
  rw [wkc, List.getElem?_append_left (by rw [wvs_length]; exact h), wvs_get _ _ h]

theorem index8 (a b c d e f g h : W32) (n : Nat) (hn : n < 8) (W : World) : (Instr.index 65 (.agg #[.int .u32 (wv a), .int .u32 (wv b), .int .u32 (wv c), .int .u32 (wv d), .int .u32 (wv e), .int .u32 (wv f), .int .u32 (wv g), .int .u32 (wv h)]) (.int .i64 (n : Int))).run Tryd.prog W = .ok (.int .u32 (wv (([a, b, c, d, e, f, g, h] : List W32).getD n 0))) W := by
  refine run_index_agg 65 58 8 _ n _ W Tryd.underlying65 (by kernel_rfl) _ Tryd.underlying58 rfl hn ?_
  have : n = 0 ∨ n = 1 ∨ n = 2 ∨ n = 3 ∨ n = 4 ∨ n = 5 ∨ n = 6 ∨ n = 7 := by omega
  rcases this with rfl | rfl | rfl | rfl | rfl | rfl | rfl | rfl <;> rfl
theorem add8 (s t : St) (n : Nat) (hn : n < 8) : s.l.getD n 0 + t.l.getD n 0 = (addSt s t).l.getD n 0 := by
  have : n = 0 ∨ n = 1 ∨ n = 2 ∨ n = 3 ∨ n = 4 ∨ n = 5 ∨ n = 6 ∨ n = 7 := by omega
  rcases this with rfl | rfl | rfl | rfl | rfl | rfl | rfl | rfl <;> rfl

set_option maxRecDepth 100000 in
set_option maxHeartbeats 4000000 in
theorem mix_any (p : Nat) (s : St) (blk : List UInt8) (held len : Int) (w : World) (hb : Blk w p 68 (wkc s blk held len)) (h64 : blk.length = 64) (hgl : Glob w) (hp : 0 < p ∧ 1 < p) :
    Calls Tryd.prog 32 #[.pointer (some ⟨p, 0, none⟩)] w (SetRet p 68 (wkc (mixB s blk) blk held len) w) := by
  have hplt := hb.lt
  have hwl : (wvs (words64 blk)).length = 64 := by rw [wvs_length]; exact words64_length blk
  have hone := wvs_one (words64 blk)
  have hi : (Tryd.prog.info? 81).map (·.size) = some (wvs (words64 blk)).length := by rw [hwl]; exact size64
  have hzl : (fill0 []).length = (wvs (words64 blk)).length := by rw [hwl]; exact fill0_length [] (by simp)
  have H1 := Lib.hid hone
  have H2 := Lib.hid hi
  have H3 := Lib.hid hzl
  have H4 := Lib.hid hwl
  clear hwl hone hi hzl
  go_enter Tryd.func32, Tryd.ntmps32
  go_wp2_with fail
  refine (words_any p s blk held len _ hb h64).mono ?_
  rintro e w1 ⟨rfl, hk1⟩
  go_wp2_with (with_reducible change wpList _ _ _ (⟨_, Op.alloc _, _, _, _, _⟩ :: _) _ _; refine wpList_alloc_blk rfl 81 rfl _ zero64 ?_)
  intro w2 hA2 hk2 hs2
  go_wp2_with (with_reducible change wpList _ _ _ (⟨_, Op.store _ _ _, _, _, _, _⟩ :: _) _ _; refine wpList_store_blk rfl 81 (.tmp 2) (.tmp 18) rfl w1.heap.size (wvs (words64 blk)) rfl rfl 81 (fill0 []) hA2 H2.out H3.out H1.out ?_)
  intro w3 hA3 hk3 hs3
  have hK3 : Kept [] w w3 := (hk1.andThen hk2).trans hk3 (by have := hk1.size; simp; omega)
  have hb3 := hb.kept0 hK3
  have hgl3 := hgl.kept0 hK3
  have hA3l := hA3.lt
  have hne : p ≠ w1.heap.size := by have := hk1.size; omega
  clear hA2 hk2 hk3 hs2 hs3 hk1
  generalize w1.heap.size = g at *
  go_wp2_with (first
    | (with_reducible change wpList _ _ _ (⟨_, Op.load _ _, _, _, _, _⟩ :: _) _ _; refine wpList_load_part rfl 65 (.tmp 21) rfl p 0 rfl 68 _ (wvs s.l) _ hb3 (wkc_head s blk held len) Tryd.underlying65 rfl (size8w s) ?_)
    | (with_reducible change wpList _ _ _ (⟨_, Op.alloc _, _, _, _, _⟩ :: _) _ _; refine wpList_alloc_blk rfl 65 rfl _ zero8 ?_))
  intro w4 hC4 hk4 hs4
  go_wp2_with (with_reducible change wpList _ _ _ (⟨_, Op.store _ _ _, _, _, _, _⟩ :: _) _ _; refine wpList_store_blk rfl 65 (.tmp 3) (.tmp 22) rfl w3.heap.size (wvs s.l) rfl rfl 65 z8 hC4 (size8w s) rfl (wvs_one _) ?_)
  intro w5 hC5 hk5 hs5
  have hK45 : Kept [] w3 w5 := hk4.trans hk5 (by simp)
  have hK5 : Kept [] w w5 := hK3.andThen hK45
  have hb5 := hb3.kept0 hK45
  have hA5 := hA3.kept0 hK45
  have hgl5 := hgl3.kept0 hK45
  have d0 : w5.cell? ⟨w3.heap.size, 0, none⟩ = some (.int .u32 (wv s.a)) := hC5.cell 0
  have d1 : w5.cell? ⟨w3.heap.size, 1, none⟩ = some (.int .u32 (wv s.b)) := hC5.cell 1
  have d2 : w5.cell? ⟨w3.heap.size, 2, none⟩ = some (.int .u32 (wv s.c)) := hC5.cell 2
  have d3 : w5.cell? ⟨w3.heap.size, 3, none⟩ = some (.int .u32 (wv s.d)) := hC5.cell 3
  have d4 : w5.cell? ⟨w3.heap.size, 4, none⟩ = some (.int .u32 (wv s.e)) := hC5.cell 4
  have d5 : w5.cell? ⟨w3.heap.size, 5, none⟩ = some (.int .u32 (wv s.f)) := hC5.cell 5
  have d6 : w5.cell? ⟨w3.heap.size, 6, none⟩ = some (.int .u32 (wv s.g)) := hC5.cell 6
  have d7 : w5.cell? ⟨w3.heap.size, 7, none⟩ = some (.int .u32 (wv s.h)) := hC5.cell 7
  clear hk4 hk5 hC4 hC5 hs4 hs5 hK45 hb3 hA3 hgl3 hK3 hb hgl hplt hA3l
  go_wp2
  go_quiet (fail)
  clear d0 d1 d2 d3 d4 d5 d6 d7
  go_wp2
  go_loopw [4, 5, 6, 7, 8, 9, 10, 11, 39] (fun va vb vc vd ve vf vg vh i wr => ∃ (n m : Nat) (t : St), n ≤ 64 ∧ Hid (t = rnds (words64 blk) s n) ∧ va = .int .u32 (wv t.a) ∧ vb = .int .u32 (wv t.b) ∧ vc = .int .u32 (wv t.c) ∧ vd = .int .u32 (wv t.d) ∧ ve = .int .u32 (wv t.e) ∧ vf = .int .u32 (wv t.f) ∧ vg = .int .u32 (wv t.g) ∧ vh = .int .u32 (wv t.h) ∧ i = .int .i64 n ∧ Hid (wr = w5.drewN m)) (fun _ _ _ _ _ _ _ _ i _ => 64 - (intOf i).toNat)
  case atStart => exact ⟨0, nq, s, by omega, Lib.hid rfl, rfl, rfl, rfl, rfl, rfl, rfl, rfl, rfl, rfl, Lib.hid rfl⟩
  case round =>
    obtain ⟨n, m, t, hn, Ht, rfl, rfl, rfl, rfl, rfl, rfl, rfl, rfl, rfl, Hw⟩ := hrel
    by_cases hlt : n < 64
    · have cK : wr.cell? ⟨1, n, none⟩ = some (.int .u32 (wv (ks.getD n 0))) := by rw [Hw.out]; exact hgl5.2 n hlt
      have cW : wr.cell? ⟨g, n, none⟩ = some (.int .u32 (wv ((words64 blk).getD n 0))) := by rw [Hw.out]; exact (hA5.cell n).trans (wvs_get (words64 blk) n (by rw [words64_length]; exact hlt))
      have Hr : Hid (rnds (words64 blk) s (n + 1) = rnd (ks.getD n 0) ((words64 blk).getD n 0) t) := by
        have := Ht.out
        show _ = _
        rw [this]; rfl
      generalize ks.getD n 0 = k at cK Hr
      generalize (words64 blk).getD n 0 = x at cW Hr
      have rx : ∀ x y : W32, bits .xor .u32 (wv x) (wv y) = wv (x ^^^ y) := bits_xorW
      have ra : ∀ x y : W32, bits .and .u32 (wv x) (wv y) = wv (x &&& y) := bits_andW
      have rn : ∀ x : W32, bits .xor .u32 IntKind.u32.max (wv x) = wv (~~~x) := notW
      have rw1 : ∀ x y : W32, IntKind.u32.wrap (wv x + wv y) = wv (x + y) := fun x y => (IntKind.wrap_u32' _).trans (wv_add x y)
      have rw2 : ∀ x y : W32, (wv x + wv y) % 4294967296 = wv (x + y) := wv_add
      have rw3 : ∀ a b c : W32, (wv a + wv b + wv c) % 4294967296 = wv (a + b + c) := wv_add3
      have rw4 : ∀ a b c d : W32, (wv a + wv b + wv c + wv d) % 4294967296 = wv (a + b + c + d) := wv_add4
      have hlz : (n : Int) < 64 := by omega
      obtain ⟨ta, tb, tc, td, te, tf, tg, th⟩ := t
      go_wp2
      go_quiet (first
        | (go_at_call 37; refine Calls.quiet_of (turn_at _ 6 _ _ rfl (by omega) (by omega)))
        | (go_at_call 37; refine Calls.quiet_of (turn_at _ 11 _ _ rfl (by omega) (by omega)))
        | (go_at_call 37; refine Calls.quiet_of (turn_at _ 25 _ _ rfl (by omega) (by omega))))
      go_wp2_with fail
      refine (turn_at _ 2 _ _ rfl (by omega) (by omega)).mono ?_
      rintro e w' ⟨rfl, m1, rfl⟩
      go_wp2_with fail
      refine (turn_at _ 13 _ _ rfl (by omega) (by omega)).mono ?_
      rintro e w' ⟨rfl, m2, rfl⟩
      go_wp2_with fail
      refine (turn_at _ 22 _ _ rfl (by omega) (by omega)).mono ?_
      rintro e w' ⟨rfl, m3, rfl⟩
      go_wp2
      go_roundw
      case rel => exact ⟨n + 1, m + (nq + m1 + m2 + m3), rnd k x ⟨ta, tb, tc, td, te, tf, tg, th⟩, by omega, Hr.out.symm, rfl, rfl, rfl, rfl, rfl, rfl, rfl, rfl, by go_num, by have := Hw.out; rw [this, World.drewN_drewN]; exact Lib.hid rfl⟩
      case measure => simp [intOf]; omega
    · obtain rfl : n = 64 := by omega
      have hbr : Blk wr p 68 (midc (addSt s t).l s.l 0 (bvs blk ++ [.int .i64 held, .int .u64 len])) := by rw [Hw.out]; exact hb5
      have hKr : Kept [] w wr := by rw [Hw.out]; exact hK5.drewN m
      have Hm : Hid (addSt s t = mixB s blk) := by
        have := Ht.out
        show _ = _
        rw [this, mixB_eq]
      clear Ht Hw hb5 hK5 hA5 hgl5 hne
      go_wp2
      rw [show ((64 : Nat) : Int) = 64 from rfl]
      go_loopw [111] (fun i wr => ∃ n : Nat, n ≤ 8 ∧ i = .int .i64 n ∧ Blk wr p 68 (midc (addSt s t).l s.l n (bvs blk ++ [.int .i64 held, .int .u64 len])) ∧ Kept [p] w wr) (fun i _ => 8 - (intOf i).toNat)
      case atStart => exact ⟨0, by omega, rfl, hbr, hKr.mono (by simp)⟩
      case round =>
        clear hbr hKr
        obtain ⟨n, hn, rfl, hB, hK⟩ := hrel
        by_cases hlt : n < 8
        · have hidx := index8 t.a t.b t.c t.d t.e t.f t.g t.h n hlt
          have hidl : ([t.a, t.b, t.c, t.d, t.e, t.f, t.g, t.h] : List W32) = t.l := rfl
          rw [hidl] at hidx
          have c1 := (hB.cell n).trans (midc_get (addSt s t).l s.l n _ rfl hlt)
          have f1 := hB.frz n
          have hset := midc_set (addSt s t).l s.l n (bvs blk ++ [.int .i64 held, .int .u64 len]) rfl hlt
          have hnew := hB.set n (.int .u32 (wv ((addSt s t).l.getD n 0)))
          rw [hset, ← add8 s t n hlt] at hnew
          have hKn : Kept [p] w (wr.setCell ⟨p, n, none⟩ (.int .u32 (wv (s.l.getD n 0 + t.l.getD n 0)))) := hK.setCell (by simp) _
          have rw1 : ∀ x y : W32, IntKind.u32.wrap (wv x + wv y) = wv (x + y) := fun x y => (IntKind.wrap_u32' _).trans (wv_add x y)
          have rw2 : ∀ x y : W32, (wv x + wv y) % 4294967296 = wv (x + y) := wv_add
          generalize s.l.getD n 0 = y at *
          generalize t.l.getD n 0 = z at *
          have hlz : (n : Int) < 8 := by omega
          clear hset hidl
          go_wp2
          go_still_tail 11, (by kernel_rfl)
          change wpList _ _ _ _ _ wr.drew
          go_wp2
          go_roundw
          case rel => exact ⟨n + 1, by omega, by go_num, hnew, hKn.drewN 1⟩
          case measure => simp [intOf]; omega
        · obtain rfl : n = 8 := by omega
          have hall := mid_all (addSt s t).l s.l rfl
          have hB2 : Blk wr p 68 (wkc (mixB s blk) blk held len) := by
            refine hB.of_eq ?_
            rw [← Hm.out]
            unfold midc wkc
            rw [show (8 : Nat) = s.l.length from rfl, hall]
          clear hall hB
          go_wp2
          go_end0
          exact ⟨rfl, hB2, hK⟩
end Go.Proofs.YtmhigipljplgdaaDoor
