/-
  Contract of the document's own digest of a text. No statement of the seed is proved here.
-/
import Derived.Test.YtmhigipljplgdaaDoorRf4
import Derived.Test.YtmhigipljplgdaaDoorRf5
import Derived.Test.YtmhigipljplgdaaDoorPc
namespace Go.Proofs.YtmhigipljplgdaaDoor
open Go.RowKit
set_option linter.unusedVariables false

theorem run_step (s : St) (dn u : List UInt8) (h : dn.length % 64 = 0) (hu : u.length = 64) : run s (dn ++ u) = mixB (run s dn) u := by
  rw [run_full s dn u (by omega)]
  congr 1
  rw [List.drop_of_length_le (by omega), List.nil_append]
theorem builtKey : Tryd.prog.built 32 [] = some (zb 32).toArray := by kernel_rfl

set_option maxRecDepth 100000 in
set_option maxHeartbeats 4000000 in
theorem rSum_any (A : Option Addr) (n c : Nat) (bs : List UInt8) (w : World) (hr : RdB w A n c bs) (hn : n ≤ 1000000) :
    Calls Tryd.prog 18 #[.slice A n c] w (KeyRet (shaSum bs) w) := by
  obtain ⟨i0, hi, hz0, hz1, hz2⟩ := info_parts u32info
  go_enter Tryd.func18, Tryd.ntmps18
  go_wp2_with (with_reducible change wpList _ _ _ (⟨_, Op.alloc _, _, _, _, _⟩ :: _) _ _; refine wpList_alloc_blk rfl 32 rfl _ zero32 ?_)
  intro w1 hR1 hk1 hs1
  go_wp2_with fail
  refine (rFilled_any A n c bs _ (hr.kept0 hk1) hn).mono ?_
  rintro e w2 ⟨v2, rfl, ho2, hk2, hf2⟩
  obtain ⟨A2, n2, c2, rfl, hr2, _⟩ := ho2.form
  have hR2 := hR1.kept0 hk2
  have hK2 := hk1.andThen hk2
  have hRlt := hR2.lt
  clear hR1 hk1 hk2 hf2 ho2 hr
  go_wp2
  go_loopw [4, 5] (fun v i wr => ∃ (k : Nat) (A3 : Option Addr) (c3 : Nat), k ≤ 8 ∧ i = .int .i64 k ∧ v = .slice A3 k c3 ∧ OwV 58 wr (.slice A3 k c3) (wvs (st0.l.take k)) ∧ Kept [] w2 wr ∧ Hid (∀ g, (Value.slice A3 k c3).ownBlock = some g → w2.heap.size ≤ g)) (fun _ i _ => 8 - (intOf i).toNat)
  case atStart => exact ⟨0, none, 0, by omega, rfl, rfl, OwV.nil _ _, Kept.refl _ _, Lib.hid (by simp [Value.ownBlock])⟩
  case round =>
    obtain ⟨k, A3, c3, hk, rfl, rfl, ho, hK, Hb⟩ := hrel
    by_cases hlt : k < 8
    · have hl : (wvs (st0.l.take k)).length = k := by rw [wvs_length, List.length_take]; show min k 8 = k; omega
      have hst : wvs (st0.l.take (k + 1)) = wvs (st0.l.take k) ++ [.int .u32 (wv (st0.l.getD k 0))] := by
        rw [take_step st0.l k (st0.l.getD k 0) (by rw [List.getElem?_eq_getElem hlt, List.getD_eq_getElem?_getD, List.getElem?_eq_getElem hlt]; rfl), wvs_append]
        rfl
      have Hl := Lib.hid hl
      have Hst := Lib.hid hst
      clear hl hst
      go_wp2_with fail
      refine (rBegins_any _).mono ?_
      rintro e w4 ⟨S, rfl, hS, rfl⟩
      have HS := Lib.hid hS
      clear hS
      go_wp2_with fail
      refine (rWord_any S st0.l k _ HS.out hlt (by show 8 ≤ 1000; omega)).mono ?_
      rintro e w5 ⟨rfl, rfl⟩
      go_wp2_with (at_builtin; refine wpList_append_vals rfl (.tmp 16) (.tmp 20) 57 rfl 58 i0 _ 4 Tryd.underlying57 hi hz0 hz1 hz2 rfl (.slice A3 k c3) _ rfl (ho.alloc _) _ 1 1 _ rfl (RdV.one wr _ _) (by simp [Value.oneCell']) (by rw [Hl.out]; simp only [maxLen]; omega) (by rw [Hl.out]; omega) ?_)
      intro v6 w6 ho6 hk6 hm6
      obtain ⟨hK6, hb6⟩ := app_new (hK.alloc _) Hb.out hk6 hm6
      obtain ⟨A4, n4, c4, rfl, hr4, _⟩ := ho6.form
      obtain rfl : k + 1 = n4 := by have := hr4.len; rw [List.length_append, Hl.out] at this; exact this
      have ho7 : OwV 58 w6 (.slice A4 (k + 1) c4) (wvs (st0.l.take (k + 1))) := by rw [Hst.out]; first | exact ho6 | simpa using ho6
      have Hb6 := Lib.hid hb6
      clear ho6 hr4 hb6 hk6 hm6 ho hK Hb HS
      go_wp2
      go_roundw
      case rel => exact ⟨k + 1, A4, c4, by omega, by go_num, rfl, ho7, hK6, Hb6⟩
      case measure => simp [intOf]; omega
    · obtain rfl : 8 = k := by omega
      have hs0 : RdV wr A3 8 c3 (wvs (run st0 []).l) := ho.rd
      have hr3 := hr2.kept0 hK
      have hl2 := hr2.len
      have hpl := padded_length bs
      have Hl2 := Lib.hid hl2
      have Hpl := Lib.hid hpl
      clear ho Hb hr2 hl2 hpl hlt hk
      go_wp2
      rw [show ((8 : Nat) : Int) = 8 from rfl]
      go_loopw [3, 4] (fun t s wq => ∃ (At : Option Addr) (r ct : Nat) (As : Option Addr) (cs : Nat) (dn rest : List UInt8), t = .slice At r ct ∧ s = .slice As 8 cs ∧ RdB wq At r ct rest ∧ Hid (padded bs = dn ++ rest ∧ dn.length % 64 = 0 ∧ rest.length % 64 = 0) ∧ RdV wq As 8 cs (wvs (run st0 dn).l) ∧ Kept [] w2 wq) (fun t _ _ => slen3 t)
      case atStart => exact ⟨A2, n2, c2, A3, c3, [], padded bs, rfl, rfl, hr3, Lib.hid ⟨rfl, rfl, Hpl.out⟩, hs0, hK⟩
      case round =>
        clear hs0 hr3 hK
        obtain ⟨At, r, ct, As, cs, dn, rest, rfl, rfl, ht, Hd, hs, hK⟩ := hrel
        have hrl := ht.len
        by_cases hpos : 0 < r
        · have h64 : 64 ≤ r := by have := Hd.out.2.2; omega
          have hcc := ht.cap
          have hcm := ht.most
          unfold maxLen at hcm
          obtain ⟨A5, r5, q5⟩ := ht.cutTo (P := Tryd.prog) 53 5 Tryd.underlying53 size1b 64 64 rfl h64
          obtain ⟨A6, r6, _, q6⟩ := ht.cutFrom (P := Tryd.prog) 53 5 Tryd.underlying53 size1b 64 64 rfl h64
          have hu : (rest.take 64).length = 64 := by rw [List.length_take]; omega
          have Hn : Hid (padded bs = (dn ++ rest.take 64) ++ rest.drop 64 ∧ (dn ++ rest.take 64).length % 64 = 0 ∧ (rest.drop 64).length % 64 = 0 ∧ run st0 (dn ++ rest.take 64) = mixB (run st0 dn) (rest.take 64)) := by
            obtain ⟨d1, d2, d3⟩ := Hd.out
            refine ⟨?_, ?_, ?_, run_step st0 dn _ d2 hu⟩
            · rw [List.append_assoc, List.take_append_drop]; exact d1
            · rw [List.length_append, hu]; omega
            · rw [List.length_drop]; omega
          have Hrl := Lib.hid hrl
          clear hu hrl ht
          go_wp2_with fail
          refine (rBehind_any As cs (run st0 dn) A5 ct _ _ hs r5).mono ?_
          rintro e w7 ⟨v7, rfl, ho7, hk7, hf7⟩
          obtain ⟨A7, n7, c7, rfl, hr7, _⟩ := ho7.form
          obtain rfl : 8 = n7 := hr7.len
          have r7 := r6.kept0 hk7
          have hK7 := hK.andThen hk7
          have hr8 : RdV w7 A7 8 c7 (wvs (run st0 (dn ++ rest.take 64)).l) := by rw [Hn.out.2.2.2]; exact hr7
          clear r5 r6 q5 hk7 hf7 ho7 hr7 hK hs
          go_wp2
          go_roundw
          case rel => exact ⟨A6, r - 64, ct - 64, A7, c7, dn ++ rest.take 64, rest.drop 64, rfl, rfl, r7, Lib.hid ⟨Hn.out.1, Hn.out.2.1, Hn.out.2.2.1⟩, hr8, hK7⟩
          case measure => simp [slen3]; omega
        · obtain rfl : 0 = r := by omega
          have hdn : dn = padded bs := by
            have : rest = [] := List.eq_nil_of_length_eq_zero hrl
            rw [Hd.out.1, this, List.append_nil]
          have Hdn := Lib.hid hdn
          obtain ⟨wz, rfl⟩ : ∃ wz, wz = wr := ⟨_, rfl⟩
          have hKw := hK2.andThen hK
          have hRz := hR2.kept0 hK
          generalize hst : run st0 dn = st at hs
          have Hsum : Hid (stBytes st = shaSum bs) := by show _ = _; rw [← hst, Hdn.out, shaSum_eq]
          clear hdn hst Hdn hrl Hd ht hpos
          go_wp2_with (first
            | (with_reducible change wpList _ _ _ (⟨_, Op.build _ _, _, _, _, _⟩ :: _) _ _; refine wpList_buildTo rfl 32 _ rfl _ rfl (zb 32).toArray (by simpa [Act.eval, Act.put] using builtKey) ?_)
            | (with_reducible change wpList _ _ _ (⟨_, Op.alloc _, _, _, _, _⟩ :: _) _ _; refine wpList_alloc_blk rfl 32 rfl _ zero32 ?_))
          intro w8 hG8 hk8 hs8
          go_wp2_with (with_reducible change wpList _ _ _ (⟨_, Op.store _ _ _, _, _, _, _⟩ :: _) _ _; refine wpList_store_blk rfl 32 (.tmp 6) (.tmp 31) rfl wz.heap.size (zb 32) rfl rfl 32 (zb 32) hG8 zb_size rfl zb_one ?_)
          intro w9 hG9 hk9 hs9
          have hK9 : Kept [] wz w9 := hk8.trans hk9 (by simp)
          have hR9 := hRz.kept0 hK9
          have hRz2 := hRz.lt
          have hG9' : Blk w9 wz.heap.size 32 (bvs (kb st.l 0)) := hG9
          obtain ⟨b, off, rfl, hblt, hcv⟩ := hs.at_ (by omega)
          have HV : Hid (∀ i, i < 8 → w9.cell? ⟨b, off + i, none⟩ = some (.int .u32 (wv (st.l.getD i 0)))) := fun i h8 => by
            rw [hK9.cell (p := ⟨b, off + i, none⟩) hblt (by simp), hcv i h8, ← wvs_get st.l i h8, List.getElem?_eq_getElem h8]
          have hcap := hs.cap
          have hb9 : b < w9.heap.size := Nat.lt_of_lt_of_le hblt hK9.size
          have hg9 := hG9'.lt
          have hKz := hKw.andThen hK9
          clear hcv hG8 hk8 hs8 hk9 hs9 hG9 hRz hs
          go_wp2
          go_loopw [7] (fun i wq => ∃ k : Nat, k ≤ 8 ∧ i = .int .i64 k ∧ Blk wq wz.heap.size 32 (bvs (kb st.l k)) ∧ Kept [wz.heap.size] w9 wq) (fun i _ => 8 - (intOf i).toNat)
          case atStart => exact ⟨0, by omega, rfl, hG9', Kept.refl _ _⟩
          case round =>
            clear hG9'
            obtain ⟨k, hk, rfl, hG, hKq⟩ := hrel
            by_cases hlt : k < 8
            · have x1 := (hKq.cell (p := ⟨b, off + k, none⟩) hb9 (fun hm => by have := List.mem_singleton.1 hm; simp at this; omega)).trans (HV.out k hlt)
              have Hstep := Lib.hid (kb_step st.l k rfl hlt)
              have Hkl := Lib.hid (kb_length st.l k rfl hk)
              generalize st.l.getD k 0 = y at x1 Hstep
              have y0 := wv_nonneg y
              have y1 := wv_lt y
              have hsz := hKq.size
              go_wp2_with fail
              refine (rfBytes_any (wv y) 4 _ y0 (by omega) (by omega)).mono ?_
              rintro e w10 ⟨v10, rfl, ho10, hk10, hf10⟩
              rw [show (wv y).toNat = y.toNat by rw [wv_eq]; simp] at ho10
              obtain ⟨A10, n10, c10, rfl, hr10, _⟩ := ho10.form
              obtain rfl : 4 = n10 := by have := hr10.len; rw [be_length] at this; exact this
              have hG10 := hG.kept0 hk10
              have hK10 : Kept [wz.heap.size] w9 w10 := hKq.andThen hk10
              have hoff : Off A10 [wz.heap.size] := fun a ha hm => by
                have h1 := hf10 a.block (by rw [ha]; rfl)
                have := List.mem_singleton.1 hm
                omega
              have hb4 := be_length 4 y.toNat
              have Hb4 := Lib.hid hb4
              have Hhoff := Lib.hid hoff
              clear hG hKq hk10 hf10 ho10 x1 hb4 hoff
              go_wp2
              go_loopw [9] (fun i wq => ∃ j : Nat, j ≤ 4 ∧ i = .int .i64 j ∧ Blk wq wz.heap.size 32 (splice (bvs (kb st.l k)) (4 * k) (bvs ((be 4 y.toNat).take j))) ∧ RdB wq A10 4 c10 (be 4 y.toNat) ∧ Kept [wz.heap.size] w9 wq) (fun i _ => 4 - (intOf i).toNat)
              case atStart => exact ⟨0, by omega, rfl, by simpa [bvs, splice_nil] using hG10, hr10, hK10⟩
              case round =>
                clear hG10 hr10 hK10
                obtain ⟨j, hj, rfl, hG, hrx, hKq⟩ := hrel
                by_cases hlt2 : j < 4
                · obtain ⟨bx, ox, yb, rfl, cx, hyx, hyl⟩ := hrx.byte hlt2
                  have hlen : (bvs ((be 4 y.toNat).take j)).length = j := by rw [bvs_length, List.length_take, Hb4.out]; omega
                  have hbl : (bvs (kb st.l k)).length = 32 := by rw [bvs_length, Hkl.out]
                  have hsl := length_splice (bvs (kb st.l k)) (4 * k) (bvs ((be 4 y.toNat).take j)) (by omega)
                  have c1 := hG.cellD (4 * k + j) (by omega)
                  generalize (splice (bvs (kb st.l k)) (4 * k) (bvs ((be 4 y.toNat).take j)))[4 * k + j]'(by omega) = u at c1
                  have f1 := hG.frz (4 * k + j)
                  have hnew := hG.set (4 * k + j) (bcell yb)
                  have hsn := splice_snoc (bvs (kb st.l k)) (4 * k) (bvs ((be 4 y.toNat).take j)) (bcell yb) (by omega)
                  rw [hlen] at hsn
                  rw [hsn] at hnew
                  have htk : bvs ((be 4 y.toNat).take j) ++ [bcell yb] = bvs ((be 4 y.toNat).take (j + 1)) := by
                    rw [take_step _ j _ hyx, bvs_append]; rfl
                  rw [htk] at hnew
                  have hkn : Kept [wz.heap.size] (wr) (wr.setCell ⟨wz.heap.size, 4 * k + j, none⟩ (bcell yb)) := (Kept.refl _ _).setCell (by simp) _
                  have hrn := hrx.kept hkn Hhoff.out
                  have hKn := hKq.trans hkn (fun i hi => .inl hi)
                  unfold bcell at hnew hkn hrn hKn
                  clear hlen hbl hsl hsn htk hG hrx hyx hkn hKq
                  go_wp2
                  go_roundw
                  case rel => exact ⟨j + 1, by omega, by go_num, hnew, hrn, hKn⟩
                  case measure => simp [intOf]; omega
                · obtain rfl : 4 = j := by omega
                  rw [List.take_of_length_le (by rw [Hb4.out]; omega), splice_bvs, Hstep.out] at hG
                  clear hrx
                  go_wp2
                  go_roundw
                  case rel => exact ⟨k + 1, by omega, by go_num, hG, hKq⟩
                  case measure => simp [intOf]; omega
            · obtain rfl : 8 = k := by omega
              rw [kb_all, Hsum.out] at hG
              have hR10 := hR9.kept hKq (fun hm => by have := List.mem_singleton.1 hm; omega)
              have hwl : (bvs (shaSum bs)).length = 32 := by rw [bvs_length]; exact shaSum_length bs
              have hone := bvs_one (shaSum bs)
              obtain ⟨X, hX⟩ : ∃ X, X = bvs (shaSum bs) := ⟨_, rfl⟩
              rw [← hX] at hG hwl hone
              have hi2 : (Tryd.prog.info? 32).map (·.size) = some X.length := by rw [hwl]; exact size32
              have hz : (zb 32).length = X.length := by rw [hwl, zb_length]
              have HX := Lib.hid hX
              have H1 := Lib.hid hone
              have H2 := Lib.hid hi2
              have H3 := Lib.hid hz
              clear hX hwl hone hi2 hz
              go_wp2_with (first
                | (with_reducible change wpList _ _ _ (⟨_, Op.load _ _, _, _, _, _⟩ :: _) _ _; refine wpList_load_blk rfl 32 (.tmp 6) rfl wz.heap.size rfl 32 X _ hG Tryd.underlying32 rfl H2.out ?_)
                | (with_reducible change wpList _ _ _ (⟨_, Op.store _ _ _, _, _, _, _⟩ :: _) _ _; refine wpList_store_blk rfl 32 (.tmp 2) (.tmp 55) rfl w.heap.size X rfl rfl 32 (zb 32) hR10 H2.out H3.out H1.out ?_))
              intro w20 hR20 hk20 hs20
              go_wp2
              refine bodyPost_ret (results_blk rfl _ w.heap.size 32 _ _ rfl hR20 Tryd.underlying32 rfl H2.out) rfl ?_
              exact ⟨by rw [HX.out], (hKz.trans hKq (fun i hi => .inr (by have := List.mem_singleton.1 hi; have := hKw.size; omega))).trans hk20 (by simp)⟩
end Go.Proofs.YtmhigipljplgdaaDoor
