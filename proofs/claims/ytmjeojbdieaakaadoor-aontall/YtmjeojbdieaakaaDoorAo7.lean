/-
  Contract of layer 11, the document's own: the secret that slices tell. No statement of the seed is proved here.
-/
import Derived.Test.YtmjeojbdieaakaaDoorAo6
import Derived.Test.YtmjeojbdieaakaaDoorPb
namespace Go.Proofs.YtmjeojbdieaakaaDoor
open Go.RowKit
set_option linter.unusedVariables false

/-- The inside that a package tells, the length that it says, the secret. -/
@[irreducible] def inL (C : Nat) (all : List UInt8) : List UInt8 := hide (aesWords (keyL C all)) nil16 (all.take (C + 16))
@[irreducible] def inN (C : Nat) (all : List UInt8) : Nat := 256 * ((inL C all).getD 0 0).toNat + ((inL C all).getD 1 0).toNat
@[irreducible] def secL (C : Nat) (all : List UInt8) : List UInt8 := ((inL C all).drop 2).take (inN C all)
/-- A package that packing makes. -/
@[irreducible] def wholeOk (C k : Nat) (all : List UInt8) : Bool :=
  decide (inN C all ≤ 1000) && decide (inN C all + 2 ≤ C) && decide (clsN (inN C all) = C) && (pkgL k (keyL C all) (secL C all) == all)
@[irreducible] def unpE (cl : Int) (ls : List (List UInt8)) : Int := if joinE cl ls ≠ 0 then joinE cl ls else if wholeOk cl.toNat ls.length ls.flatten = true then 0 else 11
@[irreducible] def unpV (cl : Int) (ls : List (List UInt8)) : List UInt8 := if joinE cl ls = 0 ∧ wholeOk cl.toNat ls.length ls.flatten = true then secL cl.toNat ls.flatten else []
theorem inL_length {C : Nat} {all : List UInt8} (h : C + 48 ≤ all.length) : (inL C all).length = C + 16 := by
  unfold inL
  rw [hide_length, List.length_take]
  omega
theorem unp_no {cl : Int} {ls : List (List UInt8)} (h : joinE cl ls ≠ 0) : unpE cl ls = joinE cl ls ∧ unpV cl ls = [] := by
  unfold unpE unpV
  rw [if_pos h, if_neg (fun f => h f.1)]
  exact ⟨rfl, rfl⟩
theorem unp_bad {C : Nat} {ls : List (List UInt8)} (h : joinE (C : Int) ls = 0) (g : wholeOk C ls.length ls.flatten = false) : unpE (C : Int) ls = 11 ∧ unpV (C : Int) ls = [] := by
  unfold unpE unpV
  rw [Int.toNat_natCast, g, if_neg (fun f => f h), if_neg (by decide), if_neg (fun f => absurd f.2 (by decide))]
  exact ⟨rfl, rfl⟩
theorem unp_ok {C : Nat} {ls : List (List UInt8)} (h : joinE (C : Int) ls = 0) (g : wholeOk C ls.length ls.flatten = true) : unpE (C : Int) ls = 0 ∧ unpV (C : Int) ls = secL C ls.flatten := by
  unfold unpE unpV
  rw [Int.toNat_natCast, g, if_neg (fun f => f h), if_pos rfl, if_pos ⟨h, rfl⟩]
  exact ⟨rfl, rfl⟩

set_option maxRecDepth 100000 in
set_option maxHeartbeats 4000000 in
theorem rAUnp_no (cl : Int) (A : Option Addr) (n c : Nat) (ls : List (List UInt8)) (w : World) (hr : RdL w A n c ls) (h : joinE cl ls ≠ 0) :
    Calls Tryd.prog 18 #[.agg (bvs sbox).toArray, .int .i64 cl, .slice A n c] w (JoinRet (unpV cl ls) (unpE cl ls) w) := by
  have HU := Lib.hid (unp_no h)
  have HV := Lib.hid (joinV_no h)
  rw [HU.out.1, HU.out.2]
  obtain ⟨E, hE⟩ : ∃ E, joinE cl ls = E := ⟨_, rfl⟩
  rw [hE] at h ⊢
  have HE := Lib.hid hE
  have HR := Lib.hid hr
  have b1 := hr.cap
  have b2 := hr.most
  unfold maxLen at b2
  have kT : Hid (Kept [] w (w.alloc (.cells (bvs sbox).toArray 26))) := Lib.hid ((Kept.refl [] w).alloc _)
  clear hE hr HU
  go_enter Tryd.func18, Tryd.ntmps18
  go_wp2_with (with_reducible change wpList _ _ _ (⟨_, Op.box _ (Operand.tmp 0), _, _, _, _⟩ :: _) _ _; refine Great.wpList_boxTo rfl 26 _ rfl _ rfl w.heap.size rfl (bvs sbox).toArray rfl ?_)
  refine (rAJoin_any cl A n c ls _ (HR.out.kept0 kT.out)).mono ?_
  rw [HE.out, HV.out]
  rintro e w2 ⟨v2, rfl, ho2, hk2, hb2⟩
  have HK2 := Lib.hid (kT.out.andThen hk2)
  clear ho2 hk2 hb2
  go_wp2
  go_ret2
  exact ⟨.slice none 0 0, rfl, OwB.nil _ _, HK2.out, by simp [Value.ownBlock]⟩

set_option maxRecDepth 100000 in
set_option maxHeartbeats 4000000 in
theorem rAUnp_yes (C : Nat) (A : Option Addr) (n c : Nat) (ls : List (List UInt8)) (w : World) (hr : RdL w A n c ls) (h : joinE (C : Int) ls = 0) (hcl : isCls (C : Int) = true) (hC2 : C ≤ 1024) (hn1 : 1 ≤ n) (hn2 : n ≤ 255) (hF1 : C + 48 ≤ ls.flatten.length) (hF2 : ls.flatten.length ≤ 2000) :
    Calls Tryd.prog 18 #[.agg (bvs sbox).toArray, .int .i64 (C : Int), .slice A n c] w (JoinRet (unpV (C : Int) ls) (unpE (C : Int) ls) w) := by
  have hln := hr.len
  have HE := Lib.hid h
  have HV := Lib.hid (joinV_ok h)
  have HUb := Lib.hid (fun g => unp_bad (C := C) (ls := ls) h g)
  have HUo := Lib.hid (fun g => unp_ok (C := C) (ls := ls) h g)
  have HAK := Lib.hid (fun (A : Option Addr) (c : Nat) w h1 => rAKey_yes C A n c ls w h1 h hC2 hF1 hF2)
  rw [hln] at HUb HUo
  obtain ⟨F, hF⟩ : ∃ F, ls.flatten = F := ⟨_, rfl⟩
  rw [hF] at HV HUb HUo HAK hF1 hF2
  obtain ⟨K, hK⟩ : ∃ K, keyL C F = K := ⟨_, rfl⟩
  have HKl : Hid (K.length = 32) := Lib.hid (by rw [← hK]; exact keyL_length hF1)
  rw [hK] at HAK
  obtain ⟨G, hG⟩ : ∃ G, inL C F = G := ⟨_, rfl⟩
  have HGl : Hid (G.length = C + 16) := Lib.hid (by rw [← hG]; exact inL_length hF1)
  have HG : Hid (hide (aesWords K) (List.replicate 16 0) (F.take (C + 16)) = G) := Lib.hid (by rw [← hG, ← hK]; unfold inL; rfl)
  obtain ⟨x0, hx0⟩ : ∃ x0, G.getD 0 0 = x0 := ⟨_, rfl⟩
  obtain ⟨x1, hx1⟩ : ∃ x1, G.getD 1 0 = x1 := ⟨_, rfl⟩
  obtain ⟨N, hN⟩ : ∃ N, inN C F = N := ⟨_, rfl⟩
  have hN2 : 256 * x0.toNat + x1.toNat = N := by rw [← hN]; unfold inN; rw [hG, hx0, hx1]
  have hx0' := x0.toNat_lt
  have hx1' := x1.toNat_lt
  obtain ⟨T, hT⟩ : ∃ T, secL C F = T := ⟨_, rfl⟩
  have HT : Hid ((G.drop 2).take N = T) := Lib.hid (by rw [← hT]; unfold secL; rw [hG, hN])
  have Hbad : Hid (N > 1000 ∨ N + 2 > C ∨ clsN N ≠ C ∨ pkgL n K T ≠ F → unpE (C : Int) ls = 11 ∧ unpV (C : Int) ls = []) := Lib.hid (fun g => HUb.out (by
    unfold wholeOk
    rw [hN, hK, hT]
    rcases g with g | g | g | g
    · rw [decide_eq_false (by omega : ¬ N ≤ 1000)]; rfl
    · rw [decide_eq_false (by omega : ¬ N + 2 ≤ C), Bool.and_false]; rfl
    · rw [decide_eq_false g, Bool.and_false]; rfl
    · rw [beq_eq_false_iff_ne.2 g, Bool.and_false]))
  have Hgood : Hid (N ≤ 1000 → N + 2 ≤ C → clsN N = C → pkgL n K T = F → unpE (C : Int) ls = 0 ∧ unpV (C : Int) ls = T) := Lib.hid (fun g1 g2 g3 g4 => by
    rw [← hT]
    exact HUo.out (by unfold wholeOk; rw [hN, hK, hT, decide_eq_true g1, decide_eq_true g2, decide_eq_true g3, beq_iff_eq.2 g4]; rfl))
  generalize unpE (C : Int) ls = UE at *
  generalize unpV (C : Int) ls = UV at *
  obtain ⟨m, hm⟩ : ∃ m, F.length = m := ⟨_, rfl⟩
  have Hm := Lib.hid hm
  rw [hm] at hF1 hF2
  have HR := Lib.hid hr
  have b1 := hr.cap
  have b2 := hr.most
  unfold maxLen at b2
  have Hcl := Lib.hid hcl
  have Hx : Hid (∀ (w : World) (A : Option Addr) (c : Nat), RdB w A (C + 16) c G → ∃ b o, A = some ⟨b, o, none⟩ ∧ w.cell? ⟨b, o, none⟩ = some (.int .u8 (x0.toNat : Int)) ∧ w.cell? ⟨b, o + 1, none⟩ = some (.int .u8 (x1.toNat : Int))) := Lib.hid (fun w A c hh => by
    obtain ⟨b, o, y, e, cb, g1, _⟩ := hh.byte (k := 0) (by omega)
    obtain ⟨b', o', y', e', cb', g1', _⟩ := hh.byte (k := 1) (by omega)
    rw [e] at e'
    injection e' with e'
    injection e' with e1 e2
    subst e1 e2
    rw [List.getD_eq_getElem?_getD, g1] at hx0
    rw [List.getD_eq_getElem?_getD, g1'] at hx1
    refine ⟨b, o, e, ?_, ?_⟩
    · rw [← hx0]; exact cb
    · rw [← hx1]; exact cb')
  have Hsk := Lib.hid (size_of_len (P := Tryd.prog) (ty := 24) size32 HKl.out)
  have Hss := Lib.hid (size_of_len (P := Tryd.prog) (ty := 26) size256 sbox_length)
  have Hone := Lib.hid (bvs_one K)
  have Hzk : Hid ((zb 32).length = (bvs K).length) := Lib.hid (by rw [zb_length, bvs_length, HKl.out])
  have p1 : IntKind.i64.wrap ((C : Int) + 16) = (C : Int) + 16 := IntWalk.i64_in _ (by omega)
  have hT0 := Blk.new w 26 (bvs sbox)
  have kT : Kept [] w (w.alloc (.cells (bvs sbox).toArray 26)) := (Kept.refl [] w).alloc _
  obtain ⟨w1, hw1⟩ : ∃ w1, w1 = w.alloc (.cells (bvs sbox).toArray 26) := ⟨_, rfl⟩
  rw [← hw1] at hT0 kT
  obtain ⟨t, ht⟩ : ∃ t, t = w.heap.size := ⟨_, rfl⟩
  rw [← ht] at hT0
  have W1 := Lib.hid hw1
  have T0 := Lib.hid ht
  have HB := Lib.hid hT0
  have HK1 := Lib.hid kT
  obtain ⟨i0, hi0, hz0, hz1, hz2⟩ := info_parts u8info
  clear hT0 kT hw1 ht hln h hF hK hG hx0 hx1 hN hT hm hr hcl HUb HUo
  go_enter Tryd.func18, Tryd.ntmps18
  go_wp2_with (with_reducible change wpList _ _ _ (⟨_, Op.box _ (Operand.tmp 0), _, _, _, _⟩ :: _) _ _; refine Great.wpList_boxTo rfl 26 _ rfl _ rfl t T0.out.symm (bvs sbox).toArray rfl ?_; rw [← W1.out])
  refine (rAJoin_any (C : Int) A n c ls _ (HR.out.kept0 HK1.out)).mono ?_
  rw [HE.out, HV.out]
  rintro e w2 ⟨v2, rfl, ho2, hk2, hb2⟩
  obtain ⟨A2, m2, c2, rfl, hr2, _⟩ := ho2.form
  obtain rfl : m2 = m := by have := hr2.len; rw [Hm.out] at this; exact this.symm
  obtain ⟨A1, hr1, q1⟩ := hr2.cutTo (P := Tryd.prog) 22 5 Tryd.underlying22 size1u (C + 16) ((C : Int) + 16) (by omega) (by omega)
  have HB2 := Lib.hid (HB.out.kept0 hk2)
  have HK2 := Lib.hid (HK1.out.andThen hk2)
  have Hr2 := Lib.hid hr2
  have Hr1 := Lib.hid hr1
  have b3 := hr2.cap
  have b4 := hr2.most
  unfold maxLen at b4
  clear ho2 hk2 hb2 hr2 hr1 W1 T0 HB HK1
  go_wp2_with (first
    | (go_at_call 17; refine (HAK.out A c _ (HR.out.kept0 HK2.out)).mono ?_; rintro e w3 ⟨rfl, hk3⟩)
    | (with_reducible change wpList _ _ _ (⟨_, Op.alloc _, _, _, _, _⟩ :: _) _ _; refine wpList_alloc_blk rfl 24 rfl _ zero32 ?_))
  intro w4 hG4 hk4 hs4
  have hB4 := (HB2.out.kept0 hk3).kept0 hk4
  have hr4 := (Hr2.out.kept0 hk3).kept0 hk4
  have hr1 := (Hr1.out.kept0 hk3).kept0 hk4
  have hK4 := (HK2.out.andThen hk3).andThen hk4
  have hBl := HB2.out.lt
  go_wp2_with (with_reducible change wpList _ _ _ (⟨_, Op.store _ _ _, _, _, _, _⟩ :: _) _ _; refine wpList_store_blk rfl 24 (.tmp 10) (.tmp 30) rfl w3.heap.size (bvs K) rfl rfl 24 (zb 32) hG4 Hsk.out Hzk.out Hone.out ?_)
  intro w5 hG5 hk5 hs5
  obtain ⟨g, hg⟩ : ∃ g, g = w3.heap.size := ⟨_, rfl⟩
  rw [← hg] at hG5 hk5 ⊢
  have hs3 := hk3.size
  have hs2 := HK2.out.size
  have hgl : ∀ b : Nat, b < w2.heap.size → b ≠ g := fun b hb => by omega
  have hoff : ∀ (A' : Option Addr) (k' c' : Nat) (l' : List UInt8), 0 < k' → RdB w2 A' k' c' l' → Off A' [g] := fun A' k' c' l' hp hh a' ha' hin => by
    obtain ⟨b, o, y, e, cb, _, _⟩ := hh.byte (k := 0) hp
    have h1 : b < w2.heap.size := World.block_lt_of_cell? w2 _ cb
    rw [ha'] at e
    injection e with e
    subst e
    exact hgl b h1 (by simpa using hin)
  have HB5 := Lib.hid (hB4.kept hk5 (by have := hgl t hBl; simpa using this))
  have Hr5 := Lib.hid (hr4.keptIf hk5 (fun hp => hoff _ _ _ _ hp Hr2.out))
  have Hq5 := Lib.hid (hr1.keptIf hk5 (fun hp => hoff _ _ _ _ hp Hr1.out))
  have HG5 := Lib.hid hG5
  have hK5 : Kept [] w w5 := hK4.trans hk5 (fun i hi => .inr (by have := List.mem_singleton.1 hi; omega))
  have HK5 := Lib.hid hK5
  have Hs5 : Hid (w.heap.size ≤ w5.heap.size) := Lib.hid hK5.size
  clear hG4 hk4 hs4 hB4 hr4 hr1 hK4 hBl hG5 hk5 hs5 hs3 hs2 hgl hoff hk3 hg HB2 HK2 Hr2 Hr1 hK5
  go_wp2
  have SK : Hid (∀ W, Kept [] w5 W → W.rangeAt t 0 (bvs sbox) ∧ W.rangeAt g 0 (bvs K)) := Lib.hid (fun W h => ⟨(HB5.out.kept0 h).rangeOf, (HG5.out.kept0 h).rangeOf⟩)
  have hHeld := SK.out _ (Kept.refl [] w5).drew
  refine wp_region_begin (fun w' => w'.rangeAt t 0 (bvs sbox) ∧ w'.rangeAt g 0 (bvs K)) (by kernel_rfl) ?_
  refine held_loadD 0 32 rfl rfl (by kernel_rfl) (by kernel_rfl) (by kernel_rfl) rfl 26 (.tmp 3) rfl t 0 rfl (bvs sbox) _ (fun w h => h.1) arr256b rfl Hss.out hHeld ?_
  simp only [Act.put, List.setIfInBounds_toArray, List.set_cons_succ, List.set_cons_zero]
  refine held_loadD 1 33 rfl rfl (by kernel_rfl) (by kernel_rfl) (by kernel_rfl) rfl 24 (.tmp 10) rfl g 0 rfl (bvs K) _ (fun w h => h.2) arr32b rfl Hsk.out hHeld ?_
  simp only [Act.put, List.setIfInBounds_toArray, List.set_cons_succ, List.set_cons_zero]
  refine held_pureD 2 34 (.agg (zb 16).toArray) rfl rfl (by kernel_rfl) (by kernel_rfl) (by kernel_rfl) rfl (fun w _ => by kernel_rfl) hHeld ?_
  simp only [Act.put, List.setIfInBounds_toArray, List.set_cons_succ, List.set_cons_zero]
  refine held_pureD 3 35 (.slice A2 m2 c2) rfl rfl (by kernel_rfl) (by kernel_rfl) (by kernel_rfl) rfl (fun w _ => rfl) hHeld ?_
  simp only [Act.put, List.setIfInBounds_toArray, List.set_cons_succ, List.set_cons_zero]
  refine held_pureD 4 36 (.int .i64 (C : Int)) rfl rfl (by kernel_rfl) (by kernel_rfl) (by kernel_rfl) rfl (fun w _ => rfl) hHeld ?_
  simp only [Act.put, List.setIfInBounds_toArray, List.set_cons_succ, List.set_cons_zero]
  refine held_pureD 5 37 (.int .i64 ((C : Int) + 16)) rfl rfl (by kernel_rfl) (by kernel_rfl) (by kernel_rfl) rfl (fun w _ => pure_add _ _ _ _ rfl .i64 (C : Int) 16 _ rfl rfl p1 w) hHeld ?_
  simp only [Act.put, List.setIfInBounds_toArray, List.set_cons_succ, List.set_cons_zero]
  refine held_pureD 6 38 (.slice A1 (C + 16) c2) rfl rfl (by kernel_rfl) (by kernel_rfl) (by kernel_rfl) rfl (fun w _ => pure_cut 22 (.tmp 35) none (some (.tmp 37)) rfl A2 m2 c2 _ rfl 5 Tryd.underlying22 w (q1 w)) hHeld ?_
  simp only [Act.put, List.setIfInBounds_toArray, List.set_cons_succ, List.set_cons_zero]
  refine held_one 7 (by kernel_rfl) rfl ?_
  go_wp2_with fail
  refine (rfast_own K (List.replicate 16 0) A1 (C + 16) c2 (F.take (C + 16)) _ HKl.out rfl (Hq5.out.kept0 (Kept.refl [] w5).drew) (by omega)).mono ?_
  rw [HG.out]
  rintro e w6 ⟨A6, c6, rfl, ho6, hk6, hb6⟩
  have hK6 := (Kept.refl [] w5).drew.andThen hk6
  have Hr6 := Lib.hid ho6.rd
  clear hk6 ho6 hb6 hHeld
  go_wp2
  change _ ∧ wpAnyH _ _ _ _ _ _ _ _ _
  have hHeld := SK.out _ hK6
  refine ⟨hHeld, ?_⟩
  refine held_pureD 8 12 (.slice A6 (C + 16) c6) rfl rfl (by kernel_rfl) (by kernel_rfl) (by kernel_rfl) rfl (fun w _ => rfl) hHeld ?_
  simp only [Act.put, List.setIfInBounds_toArray, List.set_cons_succ, List.set_cons_zero]
  refine held_done (by kernel_rfl) ?_
  obtain ⟨b, o, e6, c60, c61⟩ := Hx.out _ _ _ Hr6.out
  subst e6
  obtain ⟨N', hN'⟩ : ∃ N' : Int, N' = (N : Int) := ⟨_, rfl⟩
  have hbl : b < w6.heap.size := World.block_lt_of_cell? w6 _ c60
  have h16 : (1 : Int) < (C : Int) + 16 := by omega
  have h160 : (0 : Int) < (C : Int) + 16 := by omega
  have HB6 := Lib.hid (HB5.out.kept0 hK6)
  have HG6 := Lib.hid (HG5.out.kept0 hK6)
  have Hr26 := Lib.hid (Hr5.out.kept0 hK6)
  have HK6 := Lib.hid (HK5.out.andThen hK6)
  have q0 : 256 * (x0.toNat : Int) + (x1.toNat : Int) = (N : Int) := by omega
  clear hHeld SK Hq5 HB5 HG5 Hr5 HK5 hK6 hN'
  go_wp2
  go_quiet (fail)
  obtain ⟨w7, h7⟩ : ∃ w7, w7 = w6.drewN nq := ⟨_, rfl⟩
  have k7 : Kept [] w6 w7 := by rw [h7]; exact (Kept.refl [] w6).drewN nq
  rw [← h7]
  have HB7 := Lib.hid (HB6.out.kept0 k7)
  have HG7 := Lib.hid (HG6.out.kept0 k7)
  have Hr27 := Lib.hid (Hr26.out.kept0 k7)
  have Hr7 := Lib.hid (Hr6.out.kept0 k7)
  have HK7 := Lib.hid (HK6.out.andThen k7)
  clear h7 k7 HB6 HG6 Hr26 Hr6 HK6 c60 c61 q0 hbl h16 h160
  by_cases hb1 : 1000 < N
  · have HU := Lib.hid (Hbad.out (.inl hb1))
    clear hN2
    go_wp2
    go_ret2
    exact ⟨.slice none 0 0, by rw [HU.out.1] <;> rfl, by rw [HU.out.2]; exact OwB.nil _ _, HK7.out, by simp [Value.ownBlock]⟩
  · by_cases hb2 : C < N + 2
    · have HU := Lib.hid (Hbad.out (.inr (.inl hb2)))
      clear hN2
      go_wp2
      go_ret2
      exact ⟨.slice none 0 0, by rw [HU.out.1] <;> rfl, by rw [HU.out.2]; exact OwB.nil _ _, HK7.out, by simp [Value.ownBlock]⟩
    · obtain ⟨D, hD⟩ : ∃ D, clsN N = D := ⟨_, rfl⟩
      have HCv : Hid (clsV (N : Int) = .tuple #[.int .i64 (D : Int), .int .i64 0]) := Lib.hid (by rw [clsV_yes (by omega) (by omega), Int.toNat_natCast, hD])
      by_cases hc : D = C
      · subst hc
        obtain ⟨A9, hr9, q9⟩ := Hr7.out.cutMid (P := Tryd.prog) 22 5 Tryd.underlying22 size1u 2 (2 + N) 2 (2 + (N : Int)) rfl (by omega) (by omega) (by omega)
        rw [Nat.add_sub_cancel_left] at hr9 q9
        rw [HT.out] at hr9
        have Hr9 := Lib.hid hr9
        have HD := Lib.hid hD
        have b5 := hr9.cap
        have b6 := hr9.most
        unfold maxLen at b6
        obtain ⟨c9, hc9⟩ : ∃ c9, c6 - 2 = c9 := ⟨_, rfl⟩
        rw [hc9] at q9 Hr9 b5 b6
        have HTl : Hid (T.length = N) := Lib.hid hr9.len
        clear hr9 hD hc9 hN2
        go_wp2_with (first
          | (go_at_call 29; refine (rCls_any _ _).mono ?_; rw [HCv.out]; rintro e w' ⟨rfl, rfl⟩)
          | (at_builtin; refine wpList_append_bytes rfl (.tmp 66) (.tmp 70) 22 rfl 5 i0 _ 1 Tryd.underlying22 hi0 hz0 hz1 hz2 rfl (.slice none 0 0) [] rfl (OwB.nil _ _) A9 N c9 T rfl Hr9.out (by simp only [maxLen, List.length_nil]; omega) (by simp only [List.length_nil]; omega) ?_))
        intro v8 w8 ho8 hk8 hm8
        obtain ⟨hK8, hb8⟩ := app_new (v := .slice none 0 0) (Kept.refl [] w7) (by simp [Value.ownBlock]) hk8 hm8
        obtain ⟨A8, n8, c8, rfl, hr8, _⟩ := ho8.form
        obtain rfl : n8 = N := by have := hr8.len; rw [HTl.out] at this; exact this.symm
        have HO8 := Lib.hid ho8
        have Hb8 := Lib.hid hb8
        have HB8 := Lib.hid (HB7.out.kept0 hK8)
        have HG8 := Lib.hid (HG7.out.kept0 hK8)
        have Hr28 := Lib.hid (Hr27.out.kept0 hK8)
        have HK8 := Lib.hid (HK7.out.andThen hK8)
        have HL7 : Hid (w.heap.size ≤ w7.heap.size) := Lib.hid HK7.out.size
        clear ho8 hk8 hm8 hb8 hr8 hK8 Hr9 q9
        go_wp2_with (first
          | (with_reducible change wpList _ _ _ (⟨_, Op.load _ (Operand.tmp 3), _, _, _, _⟩ :: _) _ _; refine wpList_load_blk rfl 26 (.tmp 3) rfl t rfl 26 _ _ HB8.out arr256b rfl Hss.out ?_)
          | (with_reducible change wpList _ _ _ (⟨_, Op.load _ (Operand.tmp 10), _, _, _, _⟩ :: _) _ _; refine wpList_load_blk rfl 24 (.tmp 10) rfl g rfl 24 _ _ HG8.out arr32b rfl Hsk.out ?_)
          | (go_at_call 32; refine (rWhole_any K A8 n8 c8 n T _ HKl.out HO8.out.rd (by omega) hn1 hn2).mono ?_; rintro e w9 ⟨v9, rfl, ho9, hk9, hb9⟩))
        obtain ⟨A10, n10, c10, rfl, hr10, _⟩ := ho9.form
        have Hr10 := Lib.hid hr10
        have HK9 := Lib.hid hk9
        clear ho9 hb9 hr10 hk9
        refine (same_k A10 A2 n10 m2 c10 c2 (pkgL n K T) F _ Hr10.out (Hr28.out.kept0 HK9.out)).mono ?_
        by_cases hP : pkgL n K T = F
        · have HU := Lib.hid (Hgood.out (by omega) (by omega) HD.out hP)
          rw [beq_iff_eq.2 hP]
          rintro e w10 ⟨rfl, hk10⟩
          have HKf := Lib.hid ((HK8.out.andThen HK9.out).andThen hk10)
          have HOf := Lib.hid ((HO8.out.kept0 HK9.out).kept0 hk10)
          have Hbf : Hid (∀ g, (Value.slice A8 n8 c8).ownBlock = some g → w.heap.size ≤ g) := Lib.hid (fun g hg => Nat.le_trans HL7.out (Hb8.out g hg))
          clear hk10 hP
          go_wp2
          go_ret2
          exact ⟨_, by rw [HU.out.1] <;> rfl, by rw [HU.out.2]; exact HOf.out, HKf.out, Hbf.out⟩
        · have HU := Lib.hid (Hbad.out (.inr (.inr (.inr hP))))
          rw [beq_eq_false_iff_ne.2 hP]
          rintro e w10 ⟨rfl, hk10⟩
          have HKf := Lib.hid ((HK8.out.andThen HK9.out).andThen hk10)
          clear hk10 hP
          go_wp2
          go_ret2
          exact ⟨.slice none 0 0, by rw [HU.out.1] <;> rfl, by rw [HU.out.2]; exact OwB.nil _ _, HKf.out, by simp [Value.ownBlock]⟩
      · have HU := Lib.hid (Hbad.out (.inr (.inr (.inl (by rw [hD]; exact hc)))))
        have hne : ¬ (D : Int) = (C : Int) := by omega
        clear hN2 hD hc
        go_wp2_with (go_at_call 29; refine (rCls_any _ _).mono ?_; rw [HCv.out]; rintro e w' ⟨rfl, rfl⟩)
        go_ret2
        exact ⟨.slice none 0 0, by rw [HU.out.1] <;> rfl, by rw [HU.out.2]; exact OwB.nil _ _, HK7.out, by simp [Value.ownBlock]⟩
end Go.Proofs.YtmjeojbdieaakaaDoor
