/-
  Contract of the document's own eight words behind a block. No statement of the seed is proved here.
-/
import Derived.Test.YtmhigipljplgdaaDoorRf3
import Derived.Test.YtmhigipljplgdaaDoorGen2
import Derived.Test.YtmhigipljplgdaaDoorPc
namespace Go.Proofs.YtmhigipljplgdaaDoor
open Go.RowKit
set_option linter.unusedVariables false

theorem RdV.cutMid {P : Program} {w : World} {A : Option Addr} {n c : Nat} {vs : List Value} (h : RdV w A n c vs) (t e : TypeId) (ht : P.underlying t = some (.slice e)) (hs : (P.info? e).map (·.size) = some 1) (l k : Nat) (y z : Int) (hy : y = (l : Int)) (hz : z = (k : Int)) (hl : l ≤ k) (hk : k ≤ n) :
    ∃ A', RdV w A' (k - l) (c - l) ((vs.drop l).take (k - l)) ∧ ∀ W, (Instr.slice t (.slice A n c) (some (.int .i64 y)) (some (.int .i64 z)) none).run P W = .ok (.slice A' (k - l) (c - l)) W := by
  subst hy hz
  have hcap := h.cap
  refine ⟨_, (h.drop l (by omega)).take (k - l) (by omega), fun W => ?_⟩
  have he : P.elem t = e := by simp [Program.elem, ht]
  rw [run_slice_lh (P := P) W t A n c (by rw [he]; exact ht) .i64 .i64 (l : Int) (k : Int) (by omega) (by omega) (by omega), size_of_elem t e ht hs W]
  simp [sliced, Result.andThen]
theorem size1w : (Tryd.prog.info? 58).map (·.size) = some 1 := by kernel_rfl
theorem subW (x : W32) : (4294967295 - wv x) % 4294967296 = wv (~~~x) := by
  rw [wv_eq, wv_eq, BitVec.toNat_not]
  have := x.isLt
  omega
theorem subW' (x : W32) : 4294967295 - wv x = wv (~~~x) := by
  rw [← subW]
  have := wv_nonneg x
  have := wv_lt x
  omega

set_option maxRecDepth 100000 in
set_option maxHeartbeats 4000000 in
theorem rBehind_any (Af : Option Addr) (cf : Nat) (s : St) (A : Option Addr) (c : Nat) (bs : List UInt8) (w : World) (hf : RdV w Af 8 cf (wvs s.l)) (hr : RdB w A 64 c bs) :
    Calls Tryd.prog 24 #[.slice Af 8 cf, .slice A 64 c] w (RowRet (mixB s bs).l w) := by
  obtain ⟨i0, hi, hz0, hz1, hz2⟩ := info_parts u32info
  go_enter Tryd.func24, Tryd.ntmps24
  go_wp2_with fail
  refine (rSpread_any A c bs _ hr).mono ?_
  rintro e w1 ⟨v1, rfl, ho1, hk1, hb1⟩
  obtain ⟨g, cap, hv, hglt, hgc, hgm, hcell⟩ := ho1.at0 (by rw [wvs_length, words64_length]; omega)
  have hwl : (wvs (words64 bs)).length = 64 := by rw [wvs_length, words64_length]
  rw [hwl] at hv hgc
  subst hv
  have hcl : ∀ t : Nat, t < 64 → w1.cell? ⟨g, t, none⟩ = some (.int .u32 (wv ((words64 bs).getD t 0))) := fun t ht => by
    rw [hcell t (by omega), ← wvs_get (words64 bs) t (by rw [words64_length]; exact ht), List.getElem?_eq_getElem (by omega)]
  have HC := Lib.hid hcl
  have hf1 := hf.kept0 hk1
  clear hcl hcell ho1 hwl hb1 hf hr
  go_wp2_with fail
  refine (rRounds_any _).mono ?_
  rintro e w2 ⟨K, rfl, hKs, rfl⟩
  have HKs := Lib.hid hKs
  clear hKs
  go_wp2
  go_loopw [7, 8] (fun v i wr => ∃ (n : Nat) (Av : Option Addr) (cv : Nat) (t : St), n ≤ 64 ∧ i = .int .i64 n ∧ v = .slice Av 8 cv ∧ Hid (t = rnds (words64 bs) s n) ∧ RdV wr Av 8 cv (wvs t.l) ∧ Kept [] w1 wr) (fun _ i _ => 64 - (intOf i).toNat)
  case atStart => exact ⟨0, Af, cf, s, by omega, rfl, rfl, Lib.hid rfl, hf1, Kept.refl _ _⟩
  case round =>
    obtain ⟨n, Av, cv, t, hn, rfl, rfl, Ht, hv, hK⟩ := hrel
    by_cases hlt : n < 64
    · have Hr : Hid (rnds (words64 bs) s (n + 1) = rnd (ks.getD n 0) ((words64 bs).getD n 0) t) := by
        have := Ht.out
        show _ = _
        rw [this]; rfl
      have cW : wr.cell? ⟨g, n, none⟩ = some (.int .u32 (wv ((words64 bs).getD n 0))) := (hK.cell (p := ⟨g, n, none⟩) hglt (by simp)).trans (HC.out n hlt)
      generalize hx : (words64 bs).getD n 0 = x at cW Hr
      generalize hk : ks.getD n 0 = k at Hr
      have Hk := Lib.hid hk
      clear hx hk Ht
      obtain ⟨ta, tb, tc, td, te, tf, tg, th⟩ := t
      obtain ⟨b, off, rfl, hblt, hcv⟩ := hv.at_ (by omega)
      have d0 : wr.cell? ⟨b, off, none⟩ = some (.int .u32 (wv ta)) := hcv 0 (by show 0 < 8; omega)
      have d1 : wr.cell? ⟨b, off + 1, none⟩ = some (.int .u32 (wv tb)) := hcv 1 (by show 1 < 8; omega)
      have d2 : wr.cell? ⟨b, off + 2, none⟩ = some (.int .u32 (wv tc)) := hcv 2 (by show 2 < 8; omega)
      have d3 : wr.cell? ⟨b, off + 3, none⟩ = some (.int .u32 (wv td)) := hcv 3 (by show 3 < 8; omega)
      have d4 : wr.cell? ⟨b, off + 4, none⟩ = some (.int .u32 (wv te)) := hcv 4 (by show 4 < 8; omega)
      have d5 : wr.cell? ⟨b, off + 5, none⟩ = some (.int .u32 (wv tf)) := hcv 5 (by show 5 < 8; omega)
      have d6 : wr.cell? ⟨b, off + 6, none⟩ = some (.int .u32 (wv tg)) := hcv 6 (by show 6 < 8; omega)
      have d7 : wr.cell? ⟨b, off + 7, none⟩ = some (.int .u32 (wv th)) := hcv 7 (by show 7 < 8; omega)
      have hcap := hv.cap
      have hmost := hv.most
      unfold maxLen at hmost
      have ra : ∀ x y : W32, bits .and .u32 (wv x) (wv y) = wv (x &&& y) := bits_andW
      have ro : ∀ x y : W32, bits .or .u32 (wv x) (wv y) = wv (x ||| y) := bits_orW
      have rs : ∀ x : W32, IntKind.u32.wrap (4294967295 - wv x) = wv (~~~x) := fun x => (IntKind.wrap_u32' _).trans (subW x)
      have rs2 : ∀ x : W32, 4294967295 - wv x = wv (~~~x) := subW'
      have rs3 : ∀ x : W32, wv x % 4294967296 = wv x := fun x => by have := wv_nonneg x; have := wv_lt x; omega
      have HW : Hid (∀ W, Calls Tryd.prog 22 #[.string K, .int .i64 n] W fun e w' => e = .returned (.int .u32 (wv k)) ∧ W = w') := fun W => by
        have := rWord_any K ks n W HKs.out hlt (by rw [ks_length]; omega)
        rw [Hk.out] at this
        exact this
      clear hcv
      go_wp2
      go_quiet (fail)
      generalize nq = q1
      go_wp2
      go_quiet (fail)
      go_wp2
      clear rs rs2 rs3
      generalize hwq : (wr.drewN q1).drewN nq = wq
      have KQ : Hid (Kept [] wr wq) := by rw [← hwq]; exact ((Kept.refl [] wr).drewN _).drewN _
      have hvq := hv.kept0 KQ.out
      have hKq := hK.andThen KQ.out
      have e0 := (KQ.out.cell (p := ⟨b, off, none⟩) hblt (by simp)).trans d0
      have e3 := (KQ.out.cell (p := ⟨b, off + 3, none⟩) hblt (by simp)).trans d3
      have e4 := (KQ.out.cell (p := ⟨b, off + 4, none⟩) hblt (by simp)).trans d4
      have e7 := (KQ.out.cell (p := ⟨b, off + 7, none⟩) hblt (by simp)).trans d7
      have hglt2 : g < wr.heap.size := Nat.lt_of_lt_of_le hglt hK.size
      have eW := (KQ.out.cell (p := ⟨g, n, none⟩) hglt2 (by simp)).trans cW
      have hbq : b < wq.heap.size := Nat.lt_of_lt_of_le hblt KQ.out.size
      have hgq : g < wq.heap.size := Nat.lt_of_lt_of_le hglt2 KQ.out.size
      clear hwq KQ hv hK d0 d1 d2 d3 d4 d5 d6 d7 cW hblt hglt2
      have SK : Hid (∀ W, Kept [] wq W → W.cell? ⟨b, off + 7, none⟩ = some (.int .u32 (wv th)) ∧ W.cell? ⟨b, off + 4, none⟩ = some (.int .u32 (wv te)) ∧ W.cell? ⟨g, n, none⟩ = some (.int .u32 (wv x))) := fun W hk =>
        ⟨(hk.cell (p := ⟨b, off + 7, none⟩) hbq (by simp)).trans e7, (hk.cell (p := ⟨b, off + 4, none⟩) hbq (by simp)).trans e4, (hk.cell (p := ⟨g, n, none⟩) hgq (by simp)).trans eW⟩
      have K0 : Hid (Kept [] wq wq.drew) := (Kept.refl [] wq).drew
      have rw1 : ∀ x y : W32, IntKind.u32.wrap (wv x + wv y) = wv (x + y) := fun x y => (IntKind.wrap_u32' _).trans (wv_add x y)
      have rw2 : ∀ x y : W32, (wv x + wv y) % 4294967296 = wv (x + y) := wv_add
      have rw3 : ∀ a b c : W32, (wv a + wv b + wv c) % 4294967296 = wv (a + b + c) := wv_add3
      have rw4 : ∀ a b c d : W32, (wv a + wv b + wv c + wv d) % 4294967296 = wv (a + b + c + d) := wv_add4
      have hnz : (n : Int) < 64 := by omega
      go_region_held3 (fun w' => w'.cell? ⟨b, off + 7, none⟩ = some (.int .u32 (wv th)) ∧ w'.cell? ⟨b, off + 4, none⟩ = some (.int .u32 (wv te)) ∧ w'.cell? ⟨g, n, none⟩ = some (.int .u32 (wv x)))
        (first
          | exact SK.out _ (Kept.refl [] wq)
          | exact SK.out _ K0.out
          | exact SK.out _ hK4.out)
        (first
          | (go_at_call 31; refine (rThree_at te 6 11 25 _ _ _ _ rfl rfl rfl (by omega) (by omega) (by omega)).mono ?_; rintro e w4 ⟨rfl, hk4⟩; have hK4 := Lib.hid (K0.out.andThen hk4))
          | (go_at_call 22; refine (HW.out _).mono ?_; rintro e w5 ⟨rfl, rfl⟩))
      have hX : th + three te 6 11 25 + (te &&& tf ||| ~~~te &&& tg) + k + x = rndX k x ⟨ta, tb, tc, td, te, tf, tg, th⟩ := by rw [three_S1, chW_or]; rfl
      rw [hX]
      have f0 := (hK4.out.cell (p := ⟨b, off, none⟩) hbq (by simp)).trans e0
      obtain ⟨A3, r3, q3⟩ := hvq.cutTo (P := Tryd.prog) 57 58 Tryd.underlying57 size1w 3 3 rfl (by omega)
      obtain ⟨A7, r7, q7⟩ := hvq.cutMid (P := Tryd.prog) 57 58 Tryd.underlying57 size1w 4 7 4 7 rfl rfl (by omega) (by omega)
      have Hr3 := Lib.hid r3
      have Hr7 := Lib.hid r7
      clear r3 r7 hX SK K0 HW e4 e7 eW ra ro HC
      go_wp2_with fail
      refine (rThree_at ta 2 13 22 _ _ _ _ rfl rfl rfl (by omega) (by omega) (by omega)).mono ?_
      rintro e w6 ⟨rfl, hk6⟩
      have hK6 := hK4.out.andThen hk6
      clear f0 hk6 hK4 hk4
      go_wp2_with (at_builtin; refine wpList_append_vals rfl (.tmp 82) (.tmp 92) 57 rfl 58 i0 _ 4 Tryd.underlying57 hi hz0 hz1 hz2 rfl (.slice none 0 0) [] rfl (OwV.nil _ _) _ 1 1 _ rfl (RdV.one w6 _ _) (by simp [Value.oneCell']) (by simp [maxLen]) (by simp) ?_)
      intro v8 w8 ho8 hk8 hm8
      obtain ⟨hK8, hb8⟩ := app_new (hK6.alloc _) (by simp [Value.ownBlock]) hk8 hm8
      obtain ⟨A8, n8, c8, rfl, hr8, _⟩ := ho8.form
      have hn0 : rndX k x ⟨ta, tb, tc, td, te, tf, tg, th⟩ + three ta 2 13 22 + (ta &&& tb ||| ta &&& tc ||| tb &&& tc) = (rnd k x ⟨ta, tb, tc, td, te, tf, tg, th⟩).a := by
        rw [three_S0, majW_or, BitVec.add_assoc]; rfl
      rw [hn0] at ho8
      have g3 := (hK8.cell (p := ⟨b, off + 3, none⟩) hbq (by simp)).trans e3
      clear hn0 hk8 hm8 hr8 hK6 e0
      go_wp2_with (at_builtin; refine wpList_append_vals rfl (.tmp 94) (.tmp 96) 57 rfl 58 i0 _ 4 Tryd.underlying57 hi hz0 hz1 hz2 rfl (.slice A8 n8 c8) _ rfl ho8 A3 3 cv _ rfl (Hr3.out.kept0 hK8) (fun u hu => wvs_one _ u (List.mem_of_mem_take hu)) (by simp [maxLen]) (by simp) ?_)
      intro v9 w9 ho9 hk9 hm9
      obtain ⟨hK9, hb9⟩ := app_new hK8 hb8 hk9 hm9
      obtain ⟨A9, n9, c9, rfl, hr9, _⟩ := ho9.form
      have g3' := (hK9.cell (p := ⟨b, off + 3, none⟩) hbq (by simp)).trans e3
      clear g3 ho8 hk9 hm9 hr9 hK8 hb8
      go_wp2_with (at_builtin; refine wpList_append_vals rfl (.tmp 98) (.tmp 104) 57 rfl 58 i0 _ 4 Tryd.underlying57 hi hz0 hz1 hz2 rfl (.slice A9 n9 c9) _ rfl (ho9.alloc _) _ 1 1 _ rfl (RdV.one w9 _ _) (by simp [Value.oneCell']) (by simp [maxLen, wvs, St.l]) (by simp [wvs, St.l]) ?_)
      intro v10 w10 ho10 hk10 hm10
      obtain ⟨hK10, hb10⟩ := app_new (hK9.alloc _) hb9 hk10 hm10
      obtain ⟨A10, n10, c10, rfl, hr10, _⟩ := ho10.form
      clear g3' ho9 hk10 hm10 hr10 hK9 hb9 e3
      go_wp2_with (at_builtin; refine wpList_append_vals rfl (.tmp 106) (.tmp 108) 57 rfl 58 i0 _ 4 Tryd.underlying57 hi hz0 hz1 hz2 rfl (.slice A10 n10 c10) _ rfl ho10 A7 3 (cv - 4) _ rfl (Hr7.out.kept0 hK10) (fun u hu => wvs_one _ u (List.mem_of_mem_drop (List.mem_of_mem_take hu))) (by simp [maxLen, wvs, St.l]) (by simp [wvs, St.l]) ?_)
      intro v11 w11 ho11 hk11 hm11
      obtain ⟨hK11, hb11⟩ := app_new hK10 hb10 hk11 hm11
      obtain ⟨A11, n11, c11, rfl, hr11, _⟩ := ho11.form
      have ho12 : OwV 58 w11 (.slice A11 n11 c11) (wvs (rnd k x ⟨ta, tb, tc, td, te, tf, tg, th⟩).l) := ho11
      obtain rfl : 8 = n11 := (ho12.rd).len
      have hr12 := ho12.rd
      have hKe := hKq.andThen hK11
      clear ho10 ho11 ho12 hr11 hk11 hm11 hK10 hb10 hK11 hb11 Hr3 Hr7 q3 q7 hvq hKq
      go_wp2
      go_roundw
      case rel => exact ⟨n + 1, A11, c11, rnd k x ⟨ta, tb, tc, td, te, tf, tg, th⟩, by omega, by go_num, rfl, Hr.out.symm, hr12, hKe⟩
      case measure => simp [intOf]; omega
    · obtain rfl : n = 64 := by omega
      obtain ⟨wz, rfl⟩ : ∃ wz, wz = wr := ⟨_, rfl⟩
      have Hm : Hid (addSt s t = mixB s bs) := by
        have := Ht.out
        show _ = _
        rw [this, mixB_eq]
      obtain ⟨b, off, rfl, hblt, hcv⟩ := hv.at_ (by omega)
      obtain ⟨bf, offf, rfl, hbflt, hcf⟩ := hf1.at_ (by omega)
      have HV : Hid (∀ i, i < 8 → wz.cell? ⟨b, off + i, none⟩ = some (.int .u32 (wv (t.l.getD i 0)))) := fun i h8 => by
        rw [hcv i h8, ← wvs_get t.l i h8, List.getElem?_eq_getElem h8]
      have HF : Hid (∀ i, i < 8 → wz.cell? ⟨bf, offf + i, none⟩ = some (.int .u32 (wv (s.l.getD i 0)))) := fun i h8 => by
        rw [hK.cell (p := ⟨bf, offf + i, none⟩) hbflt (by simp), hcf i h8, ← wvs_get s.l i h8, List.getElem?_eq_getElem h8]
      have hbfr : bf < wz.heap.size := Nat.lt_of_lt_of_le hbflt hK.size
      have hcap1 := hv.cap
      have hcap2 := hf1.cap
      have hKw := hk1.andThen hK
      clear Ht hcv hcf hv hf1 HC HKs hk1 hK hbflt
      go_wp2
      rw [show ((64 : Nat) : Int) = 64 from rfl]
      go_loopw [13, 14] (fun o i wo => ∃ (k : Nat) (A3 : Option Addr) (c3 : Nat), k ≤ 8 ∧ i = .int .i64 k ∧ o = .slice A3 k c3 ∧ OwV 58 wo (.slice A3 k c3) (wvs ((addSt s t).l.take k)) ∧ Kept [] wz wo ∧ Hid (∀ g, (Value.slice A3 k c3).ownBlock = some g → wz.heap.size ≤ g)) (fun _ i _ => 8 - (intOf i).toNat)
      case atStart => exact ⟨0, none, 0, by omega, rfl, rfl, OwV.nil _ _, Kept.refl _ _, Lib.hid (by simp [Value.ownBlock])⟩
      case round =>
        obtain ⟨k, A3, c3, hk, rfl, rfl, ho, hKo, Hb⟩ := hrel
        by_cases hlt : k < 8
        · have x1 := (hKo.cell (p := ⟨b, off + k, none⟩) hblt (by simp)).trans (HV.out k hlt)
          have x2 := (hKo.cell (p := ⟨bf, offf + k, none⟩) hbfr (by simp)).trans (HF.out k hlt)
          have hsum := add8 s t k hlt
          have hst : wvs ((addSt s t).l.take (k + 1)) = wvs ((addSt s t).l.take k) ++ [.int .u32 (wv (s.l.getD k 0 + t.l.getD k 0))] := by
            rw [take_step (addSt s t).l k ((addSt s t).l.getD k 0) (by rw [List.getElem?_eq_getElem hlt, List.getD_eq_getElem?_getD, List.getElem?_eq_getElem hlt]; rfl), wvs_append, hsum]
            rfl
          have hl : (wvs ((addSt s t).l.take k)).length = k := by rw [wvs_length, List.length_take]; show min k 8 = k; omega
          have Hst := Lib.hid hst
          have Hl := Lib.hid hl
          generalize s.l.getD k 0 = ya at *
          generalize t.l.getD k 0 = yb at *
          have rw1 : ∀ x y : W32, IntKind.u32.wrap (wv x + wv y) = wv (x + y) := fun x y => (IntKind.wrap_u32' _).trans (wv_add x y)
          have rw2 : ∀ x y : W32, (wv x + wv y) % 4294967296 = wv (x + y) := wv_add
          have hkz : (k : Int) < 8 := by omega
          have SK : Hid (∀ W, Kept [] wr W → W.cell? ⟨b, off + k, none⟩ = some (.int .u32 (wv yb)) ∧ W.cell? ⟨bf, offf + k, none⟩ = some (.int .u32 (wv ya))) := fun W hk =>
            ⟨(hk.cell (p := ⟨b, off + k, none⟩) (Nat.lt_of_lt_of_le hblt hKo.size) (by simp)).trans x1, (hk.cell (p := ⟨bf, offf + k, none⟩) (Nat.lt_of_lt_of_le hbfr hKo.size) (by simp)).trans x2⟩
          have K0 : Hid (Kept [] wr wr.drew) := (Kept.refl [] wr).drew
          have K1 : Hid (Kept [] wr (wr.alloc (.cells #[.int .u32 (wv (ya + yb))] 58)).drew) := ((Kept.refl [] wr).alloc _).drew
          have R1 : Hid (RdV (wr.alloc (.cells #[.int .u32 (wv (ya + yb))] 58)).drew (some ⟨wr.heap.size, 0, none⟩) 1 1 [.int .u32 (wv (ya + yb))]) := (RdV.one wr _ _).kept0 (Kept.refl [] _).drew
          clear hst hl hsum HV HF
          go_wp2
          go_region_held3 (fun w' => w'.cell? ⟨b, off + k, none⟩ = some (.int .u32 (wv yb)) ∧ w'.cell? ⟨bf, offf + k, none⟩ = some (.int .u32 (wv ya)))
            (first
              | exact SK.out _ (Kept.refl [] wr)
              | exact SK.out _ K0.out
              | exact SK.out _ K1.out
              | exact ⟨(hk6.cell (p := ⟨b, off + k, none⟩) (Nat.lt_of_lt_of_le (Nat.lt_of_lt_of_le hblt hKo.size) K1.out.size) (fun hm => by have := Hb.out b (by simpa using hm); omega)).trans (SK.out _ K1.out).1, (hk6.cell (p := ⟨bf, offf + k, none⟩) (Nat.lt_of_lt_of_le (Nat.lt_of_lt_of_le hbfr hKo.size) K1.out.size) (fun hm => by have := Hb.out bf (by simpa using hm); omega)).trans (SK.out _ K1.out).2⟩)
            (first
              | (refine step_append_vals (by rfl) (.tmp 115) (.tmp 125) 57 (by rfl) 58 i0 _ 4 Tryd.underlying57 hi hz0 hz1 hz2 (by rfl) _ (wvs ((addSt s t).l.take k)) (by rfl) (ho.kept0 K1.out) _ 1 1 _ (by rfl) R1.out (by simp [Value.oneCell']) (by rw [Hl.out]; simp only [maxLen]; omega) (by rw [Hl.out]; omega) ?_; intro v6 w6 ho6 hk6 hm6))
          obtain ⟨hK6, hb6⟩ := app_new (hKo.andThen K1.out) Hb.out hk6 hm6
          obtain ⟨A4, n4, c4, rfl, hr4, _⟩ := ho6.form
          rw [← Hst.out] at ho6
          obtain rfl : k + 1 = n4 := by have := hr4.len; rw [List.length_append, Hl.out] at this; exact this
          have Hb6 := Lib.hid hb6
          clear hr4 hb6 hk6 hm6 ho hKo Hb SK K0 K1 R1 x1 x2
          go_wp2
          go_roundw
          case rel => exact ⟨k + 1, A4, c4, by omega, by go_num, rfl, ho6, hK6, Hb6⟩
          case measure => simp [intOf]; omega
        · obtain rfl : 8 = k := by omega
          rw [List.take_of_length_le (by show 8 ≤ 8; omega), Hm.out] at ho
          have hs1 := hKw.size
          go_wp2
          go_ret
          exact ⟨_, rfl, ho, hKw.andThen hKo, fun g hg => Nat.le_trans hs1 (Hb.out g hg)⟩
end Go.Proofs.YtmhigipljplgdaaDoor
