/-
  Contracts of layer 5 (aes): a key's box, and a block encrypted by it. No statement of the seed is proved here.
-/
import Derived.Test.YtmjeojbdieaakaaDoorAes5
import Derived.Test.YtmjeojbdieaakaaDoorPb
import Derived.Deep.RegionHeld3
namespace Go.Proofs.YtmjeojbdieaakaaDoor
open Go.RowKit
set_option linter.unusedVariables false

/-- The cells of a box. -/
def boxc (K : List UInt8) : List Value := bvs sbox ++ wvs (wsOf K 60)
def box0 : List Value := bvs sbox ++ zws 60
theorem boxc_length (K : List UInt8) : (boxc K).length = 316 := by simp [boxc, bvs_length, sbox_length, wvs_length, wsOf_length]
theorem box0_length : box0.length = 316 := by simp [box0, bvs_length, sbox_length, zws_length]
def BoxAt (w : World) (p : Nat) (K : List UInt8) : Prop := Blk w p 108 (boxc K)
theorem BoxAt.tb {w : World} {p : Nat} {K : List UInt8} (h : BoxAt w p K) : TbAt w p := fun x => by
  rw [Blk.cell h x.toNat, boxc, List.getElem?_append_left (by rw [bvs_length, sbox_length]; exact x.toNat_lt), bvs, List.getElem?_map, sb_get]; rfl
theorem BoxAt.ky {w : World} {p : Nat} {K : List UInt8} (h : BoxAt w p K) : KyAt w p K := fun j hj => by
  rw [Blk.cell h (256 + j), boxc, List.getElem?_append_right (by rw [bvs_length, sbox_length]; omega), bvs_length, sbox_length, Nat.add_sub_cancel_left, wvs_at (by rw [wsOf_length]; exact hj), wsOf_get K hj]
theorem BoxAt.kept {w w' : World} {p : Nat} {K : List UInt8} {S : List Nat} (h : BoxAt w p K) (hk : Kept S w w') (hS : p ∉ S) : BoxAt w' p K := Blk.kept h hk hS
theorem BoxAt.kept0 {w w' : World} {p : Nat} {K : List UInt8} (h : BoxAt w p K) (hk : Kept [] w w') : BoxAt w' p K := Blk.kept0 h hk
theorem BoxAt.lt {w : World} {p : Nat} {K : List UInt8} (h : BoxAt w p K) : p < w.heap.size := Blk.lt h
theorem builtBox : Tryd.prog.built 108 [(0, .agg (bvs sbox).toArray)] = some box0.toArray := by kernel_rfl
theorem box_splice (K : List UInt8) : splice box0 256 (wvs (wsOf K 60)) = boxc K := by
  unfold splice box0 boxc
  rw [List.take_append_of_le_length (by rw [bvs_length, sbox_length]; exact Nat.le_refl _), List.take_of_length_le (by rw [bvs_length, sbox_length]; exact Nat.le_refl _)]
  rw [List.drop_of_length_le (by simp [bvs_length, sbox_length, zws_length, wvs_length, wsOf_length]), List.append_nil]

set_option maxRecDepth 100000 in
set_option maxHeartbeats 1000000 in
theorem new_any (key : List UInt8) (w : World) (hl : key.length = 32) : Calls Tryd.prog 46 #[.agg (bvs key).toArray] w fun e w' => ∃ p, e = .returned (.pointer (some ⟨p, 0, none⟩)) ∧ BoxAt w' p (aesWords key) ∧ w.heap.size ≤ p ∧ Kept [] w w' := by
  have Hl := Lib.hid hl
  have hB := Blk.new w 24 (bvs key)
  have hK1 : Kept [] w (w.alloc (.cells (bvs key).toArray 24)) := (Kept.refl [] w).alloc _
  go_enter Tryd.func46, Tryd.ntmps46
  go_wp2_with (with_reducible change wpList _ _ _ (⟨_, Op.box _ _, _, _, _, _⟩ :: _) _ _; refine Great.wpList_boxTo rfl 24 _ rfl _ rfl w.heap.size rfl (bvs key).toArray rfl ?_; generalize w.alloc (.cells (bvs key).toArray 24) = w1 at *)
  refine (table_any _).mono ?_
  rintro e w2 ⟨rfl, hk2⟩
  have hB2 := hB.kept0 hk2
  have hK2 := hK1.andThen hk2
  have hP := Blk.new w2 108 box0
  have hk3 : Kept [] w2 (w2.alloc (.cells box0.toArray 108)) := (Kept.refl [] w2).alloc _
  obtain ⟨g, hg⟩ : ∃ g, g = w.heap.size := ⟨_, rfl⟩
  obtain ⟨p, hp⟩ : ∃ p, p = w2.heap.size := ⟨_, rfl⟩
  have hsz2 := hK2.size
  have hBl := hB2.lt
  rw [← hg] at hB2 hBl ⊢
  rw [← hp] at hP
  have hgp : w.heap.size ≤ p := by omega
  have hng : g ≠ p := by omega
  have Hp := Lib.hid hp
  clear hB hK1 hk2 hl hg hp hsz2 hBl
  have HB0 := Lib.hid builtBox
  obtain ⟨X, hX⟩ : ∃ X, X = box0 := ⟨_, rfl⟩
  rw [← hX] at hP HB0 hk3
  have HX := Lib.hid hX
  clear hX
  go_wp2_with (first
    | (with_reducible change wpList _ _ _ (⟨_, Op.build _ _, _, _, _, _⟩ :: _) _ _; refine wpList_buildTo rfl 108 _ rfl _ rfl X.toArray (by simpa [Act.eval, Act.put] using HB0.out) ?_)
    | (with_reducible change wpList _ _ _ (⟨_, Op.box _ _, _, _, _, _⟩ :: _) _ _; refine Great.wpList_boxTo rfl 108 _ rfl _ rfl p Hp.out.symm X.toArray rfl ?_; generalize w2.alloc (.cells X.toArray 108) = w3 at *))
  have hBX := hB2.kept0 hk3
  have hKX := hK2.andThen hk3
  have hXl : X.length = 316 := by rw [HX.out]; exact box0_length
  have hTb : TbAt w3 p := fun x => by
    rw [hP.cell x.toNat, HX.out, box0, List.getElem?_append_left (by rw [bvs_length, sbox_length]; exact x.toNat_lt), bvs, List.getElem?_map, sb_get]; rfl
  have SK := Lib.hid (fun W (h : Kept [] w3 W) => And.intro (hBX.kept0 h).rangeOf ((hP.kept0 h).thereAt 256 60 (by omega)))
  have HT := Lib.hid hTb
  have HP := Lib.hid hP
  have Hwl := Lib.hid (wsOf_length (aesWords key) 60)
  have hu := arrKey
  have hsz := size_of_len (P := Tryd.prog) (ty := 24) sizeKey Hl.out
  have hs60 := size_of_lenw (P := Tryd.prog) (ty := 106) sizeA60 Hwl.out
  have hw60 : (wvs (wsOf (aesWords key) 60)).length = 60 := by rw [wvs_length, Hwl.out]
  have hone := wvs_one (wsOf (aesWords key) 60)
  obtain ⟨V, hV⟩ : ∃ V, V = wvs (wsOf (aesWords key) 60) := ⟨_, rfl⟩
  rw [← hV] at hs60 hw60 hone
  have HV := Lib.hid hV
  have Hx : Hid (256 + V.length ≤ X.length) := Lib.hid (by omega)
  have SK2 := Lib.hid (fun W (h : Kept [] w3 W) => And.intro ((hBX.kept0 h).kept (kept_setCells V W 256) (by simpa using hng)).rangeOf ((Blk.setCells V W X 256 (hP.kept0 h) Hx.out).thereAt 256 60 (by rw [length_splice _ _ _ Hx.out]; omega)))
  clear hV
  clear hTb hP hBX hB2 hK2 hk3 hXl Hp
  go_wp2
  go_region_held3 (fun w' => w'.rangeAt g 0 (bvs key) ∧ w'.there p 256 60)
    (first
      | exact SK.out _ (Kept.refl [] w3)
      | exact SK.out _ (Kept.refl [] w3).drew
      | exact SK.out _ hK6
      | exact SK2.out _ hK6)
    (first
      | (go_at_call 65; refine (keyed_any p key _ (HT.out.kept0 (Kept.refl [] w3).drew) Hl.out).mono ?_; rintro e w6 ⟨h6, hk6⟩; rw [← HV.out] at h6; subst h6; have hK6 := (Kept.refl [] w3).drew.andThen hk6))
  have hFin := Blk.setCells V w6 X 256 (HP.out.kept0 hK6) Hx.out
  have e1 : splice X 256 V = boxc (aesWords key) := by rw [HX.out, HV.out]; exact box_splice _
  rw [e1] at hFin
  have hKf : Kept [] w (w6.setCells p 256 V) := (hKX.andThen hK6).trans (kept_setCells V w6 256) (by simp; omega)
  clear SK SK2 HT HP hs60 hw60 hone hu hsz e1 hK6 hk6
  generalize w6.setCells p 256 V = w7 at *
  go_wp2
  go_ret
  exact ⟨p, rfl, hFin, hgp, hKf⟩

set_option maxRecDepth 100000 in
set_option maxHeartbeats 2000000 in
theorem block5_any (p : Nat) (K x : List UInt8) (w : World) (hb : BoxAt w p K) (hl : x.length = 16) : Calls Tryd.prog 48 #[.pointer (some ⟨p, 0, none⟩), .agg (bvs x).toArray] w (KeyRet (aesBlock K x) w) := by
  have Hb := Lib.hid hb
  have Hl := Lib.hid hl
  have hpl := hb.lt
  have Hx := Lib.hid (size_of_len (P := Tryd.prog) (ty := 58) size16 hl)
  have Hal := Lib.hid (aesBlock_length K x)
  have Hsa := Lib.hid (size_of_len (P := Tryd.prog) (ty := 58) size16 Hal.out)
  have Hza := Lib.hid (zb_len Hal.out)
  have Hae := Lib.hid (aesBlock_eq K x)
  have hws : ∀ s : List UInt8, (Tryd.prog.info? 111).map (·.size) = some (wvs (wsOf s 4)).length := fun s => size_of_lenw (P := Tryd.prog) (ty := 111) sizeCol (wsOf_length s 4)
  have hwz : ∀ s : List UInt8, (zws 4).length = (wvs (wsOf s 4)).length := fun s => zws_len (wsOf_length s 4)
  have hww : ∀ s t : List UInt8, (wvs (wsOf s 4)).length = (wvs (wsOf t 4)).length := fun s t => by rw [wvs_length, wvs_length, wsOf_length, wsOf_length]
  have Hws := Lib.hid hws
  have Hwz := Lib.hid hwz
  have Hww := Lib.hid hww
  have hB := Blk.new w 58 (bvs x)
  have hK1 : Kept [] w (w.alloc (.cells (bvs x).toArray 58)) := (Kept.refl [] w).alloc _
  have hs1 : (w.alloc (.cells (bvs x).toArray 58)).heap.size = w.heap.size + 1 := by simp
  clear hb hl hws hwz hww
  go_enter Tryd.func48, Tryd.ntmps48
  go_wp2_with (first
    | (with_reducible change wpList _ _ _ (⟨_, Op.box _ _, _, _, _, _⟩ :: _) _ _; refine Great.wpList_boxTo rfl 58 _ rfl _ rfl w.heap.size rfl (bvs x).toArray rfl ?_; generalize w.alloc (.cells (bvs x).toArray 58) = w1 at *)
    | (with_reducible change wpList _ _ _ (⟨_, Op.alloc _, _, _, _, _⟩ :: _) _ _; refine wpList_alloc_blk rfl 58 rfl _ zero16 ?_))
  intro w2 hR2 hk2 hs2
  have hB2 := hB.kept0 hk2
  have hK2 := hK1.andThen hk2
  obtain ⟨r, hr⟩ : ∃ r, r = w.heap.size + 1 := ⟨_, rfl⟩
  obtain ⟨g, hg⟩ : ∃ g, g = w.heap.size := ⟨_, rfl⟩
  rw [← hr] at hR2 ⊢
  rw [← hg] at hB2 ⊢
  have l1 : w.heap.size ≤ r := by omega
  have hrl : r < w2.heap.size := by omega
  clear hB hK1 hs1 hk2 hs2 hr hg
  go_wp2_with (with_reducible change wpList _ _ _ (⟨_, Op.load _ _, _, _, _, _⟩ :: _) _ _; refine wpList_load_blk rfl 58 (.tmp 3) rfl g rfl 58 _ _ hB2 arr16b rfl Hx.out ?_)
  refine (taken_any x _ Hl.out).mono ?_
  rintro e w3 ⟨rfl, hk3⟩
  go_wp2_with fail
  refine (added_any p K x 0 _ _ ((Hb.out.kept0 (hK2.andThen hk3)).ky) rfl (by omega)).mono ?_
  rintro e w4 ⟨rfl, hk4⟩
  have hR4 := (hR2.kept0 hk3).kept0 hk4
  have hK4 := (hK2.andThen hk3).andThen hk4
  have hs4 : r < w4.heap.size := by have := hk3.size; have := hk4.size; omega
  clear hB2 hR2 hK2 hk3 hk4 hrl
  go_wp2_with (with_reducible change wpList _ _ _ (⟨_, Op.alloc _, _, _, _, _⟩ :: _) _ _; refine wpList_alloc_blk rfl 111 rfl _ zeroCol ?_)
  intro w5 hC5 hk5 hs5
  go_wp2_with (with_reducible change wpList _ _ _ (⟨_, Op.store _ _ _, _, _, _, _⟩ :: _) _ _; refine wpList_store_blk rfl 111 (.tmp 5) (.tmp 13) rfl w4.heap.size (wvs (wsOf (addKey K 0 x) 4)) rfl rfl 111 (zws 4) hC5 (Hws.out _) (Hwz.out _) (wvs_one _) ?_)
  intro w6 hC6 hk6 hs6
  obtain ⟨c, hc⟩ : ∃ c, c = w4.heap.size := ⟨_, rfl⟩
  rw [← hc] at hC6 hk6 ⊢
  have l2 : w.heap.size ≤ c := by have := hK4.size; omega
  have n1 : r ≠ c := by omega
  have hK6 : Kept [] w w6 := (hK4.andThen hk5).trans hk6 (by simp; omega)
  have hR6 := (hR4.kept0 hk5).kept hk6 (by simpa using n1)
  have n2 : p ≠ c := by omega
  clear hR4 hK4 hC5 hk5 hs5 hk6 hs6 hc hs4 hpl
  go_wp2
  go_loopw [14] (fun i wr => ∃ k : Nat, k ≤ 14 ∧ i = .int .i64 (k : Int) ∧ Blk wr c 111 (wvs (wsOf (aesRounds K k x) 4)) ∧ Blk wr r 58 (zb 16) ∧ Kept [] w wr) (fun i _ => 14 - (intOf i).toNat)
  case atStart => exact ⟨0, by omega, rfl, hC6, hR6, hK6⟩
  case round =>
    clear hC6 hR6 hK6
    obtain ⟨k, hk, rfl, hC, hR, hK⟩ := hrel
    by_cases hlt : k < 14
    · have Hrd : Hid (aesRounds K (k + 1) x = addKey K (k + 1) (if k + 1 < 14 then mixAll (shSub (aesRounds K k x)) else shSub (aesRounds K k x))) := Lib.hid rfl
      generalize aesRounds K k x = s at *
      have hcl : c < wr.heap.size := hC.lt
      have hCd := hC.drew
      have hRd := hR.drew
      have hKd := hK.drew
      go_wp2
      go_still_tail 4, (by kernel_rfl)
      refine wpStill_load_blk rfl 111 (.tmp 5) rfl c 0 rfl _ _ hC.rangeOf arrCol rfl (Hws.out _) ?_
      refine wpStill_nil ?_
      change wpList _ _ _ _ _ wr.drew
      generalize wr.drew = wd at *
      clear hC hR hK hcl
      go_wp2_with fail
      refine (exchanged_any p s _ (Hb.out.kept0 hKd).tb).mono ?_
      rintro e w3 ⟨rfl, hk3⟩
      have hC3 := hCd.kept0 hk3
      have hR3 := hRd.kept0 hk3
      have hK3 := hKd.andThen hk3
      clear hCd hRd hKd hk3
      go_wp2_with (with_reducible change wpList _ _ _ (⟨_, Op.store _ _ _, _, _, _, _⟩ :: _) _ _; refine wpList_store_blk rfl 111 (.tmp 5) (.tmp 21) rfl c _ rfl rfl 111 _ hC3 (Hws.out _) (Hww.out _ _) (wvs_one _) ?_)
      intro w4 hC4 hk4 hs4
      have hR4 := hR3.kept hk4 (by simpa using n1)
      have hK4 : Kept [] w w4 := hK3.trans hk4 (by simp; omega)
      clear hC3 hR3 hK3 hk4 hs4
      by_cases h13 : k < 13
      · have Hrd' : Hid (aesRounds K (k + 1) x = addKey K (k + 1) (mixAll (shSub s))) := by have := Hrd.out; rw [if_pos (by omega)] at this; exact this
        clear Hrd
        generalize shSub s = s1 at *
        go_wp2_with (with_reducible change wpList _ _ _ (⟨_, Op.load _ _, _, _, _, _⟩ :: _) _ _; refine wpList_load_blk rfl 111 (.tmp 5) rfl c rfl 111 _ _ hC4 arrCol rfl (Hws.out _) ?_)
        refine (mixed5_any s1 _).mono ?_
        rintro e w5 ⟨rfl, hk5⟩
        have hC5 := hC4.kept0 hk5
        have hR5 := hR4.kept0 hk5
        have hK5 := hK4.andThen hk5
        clear hC4 hR4 hK4 hk5
        go_wp2_with (with_reducible change wpList _ _ _ (⟨_, Op.store _ _ _, _, _, _, _⟩ :: _) _ _; refine wpList_store_blk rfl 111 (.tmp 5) (.tmp 25) rfl c _ rfl rfl 111 _ hC5 (Hws.out _) (Hww.out _ _) (wvs_one _) ?_)
        intro w6 hC6 hk6 hs6
        have hR6 := hR5.kept hk6 (by simpa using n1)
        have hK6 : Kept [] w w6 := hK5.trans hk6 (by simp; omega)
        clear hC5 hR5 hK5 hk6 hs6
        generalize mixAll s1 = s2 at *
        go_wp2_with (with_reducible change wpList _ _ _ (⟨_, Op.load _ _, _, _, _, _⟩ :: _) _ _; refine wpList_load_blk rfl 111 (.tmp 5) rfl c rfl 111 _ _ hC6 arrCol rfl (Hws.out _) ?_)
        go_wp2_with fail
        refine (added_any p K s2 (k + 1) _ _ ((Hb.out.kept0 hK6).ky) (by omega) (by omega)).mono ?_
        rw [← Hrd'.out]
        rintro e w7 ⟨rfl, hk7⟩
        have hC7 := hC6.kept0 hk7
        have hR7 := hR6.kept0 hk7
        have hK7 := hK6.andThen hk7
        clear hC6 hR6 hK6 hk7
        go_wp2_with (with_reducible change wpList _ _ _ (⟨_, Op.store _ _ _, _, _, _, _⟩ :: _) _ _; refine wpList_store_blk rfl 111 (.tmp 5) (.tmp 30) rfl c _ rfl rfl 111 _ hC7 (Hws.out _) (Hww.out _ _) (wvs_one _) ?_)
        intro w8 hC8 hk8 hs8
        have hR8 := hR7.kept hk8 (by simpa using n1)
        have hK8 : Kept [] w w8 := hK7.trans hk8 (by simp; omega)
        clear hC7 hR7 hK7 hk8 hs8
        go_wp2
        go_roundw
        case rel => exact ⟨k + 1, by omega, by go_num, hC8, hR8, hK8⟩
        case measure => simp [intOf]; omega
      · have Hrd' : Hid (aesRounds K (k + 1) x = addKey K (k + 1) (shSub s)) := by have := Hrd.out; rw [if_neg (by omega)] at this; exact this
        clear Hrd
        generalize shSub s = s2 at *
        go_wp2_with (with_reducible change wpList _ _ _ (⟨_, Op.load _ _, _, _, _, _⟩ :: _) _ _; refine wpList_load_blk rfl 111 (.tmp 5) rfl c rfl 111 _ _ hC4 arrCol rfl (Hws.out _) ?_)
        go_wp2_with fail
        refine (added_any p K s2 (k + 1) _ _ ((Hb.out.kept0 hK4).ky) (by omega) (by omega)).mono ?_
        rw [← Hrd'.out]
        rintro e w7 ⟨rfl, hk7⟩
        have hC7 := hC4.kept0 hk7
        have hR7 := hR4.kept0 hk7
        have hK7 := hK4.andThen hk7
        clear hC4 hR4 hK4 hk7
        go_wp2_with (with_reducible change wpList _ _ _ (⟨_, Op.store _ _ _, _, _, _, _⟩ :: _) _ _; refine wpList_store_blk rfl 111 (.tmp 5) (.tmp 30) rfl c _ rfl rfl 111 _ hC7 (Hws.out _) (Hww.out _ _) (wvs_one _) ?_)
        intro w8 hC8 hk8 hs8
        have hR8 := hR7.kept hk8 (by simpa using n1)
        have hK8 : Kept [] w w8 := hK7.trans hk8 (by simp; omega)
        clear hC7 hR7 hK7 hk8 hs8
        go_wp2
        go_roundw
        case rel => exact ⟨k + 1, by omega, by go_num, hC8, hR8, hK8⟩
        case measure => simp [intOf]; omega
    · obtain rfl : k = 14 := by omega
      rw [← Hae.out] at hC
      go_wp2_with (with_reducible change wpList _ _ _ (⟨_, Op.load _ _, _, _, _, _⟩ :: _) _ _; refine wpList_load_blk rfl 111 (.tmp 5) rfl c rfl 111 _ _ hC arrCol rfl (Hws.out _) ?_)
      refine (told_any _ _ Hal.out).mono ?_
      rintro e w7 ⟨rfl, hk7⟩
      have hR7 := hR.kept0 hk7
      have hK7 := hK.andThen hk7
      clear hR hK hk7 hC
      go_wp2_with (with_reducible change wpList _ _ _ (⟨_, Op.store _ _ _, _, _, _, _⟩ :: _) _ _; refine wpList_store_blk rfl 58 (.tmp 4) (.tmp 33) rfl r _ rfl rfl 58 (zb 16) hR7 Hsa.out Hza.out (bvs_one _) ?_)
      intro w8 hR8 hk8 hs8
      go_wp2
      refine bodyPost_ret (results_blk rfl _ r 58 _ _ rfl hR8 arr16b rfl Hsa.out) rfl ?_
      exact ⟨rfl, hK7.trans hk8 (by simp; omega)⟩
end Go.Proofs.YtmjeojbdieaakaaDoor
