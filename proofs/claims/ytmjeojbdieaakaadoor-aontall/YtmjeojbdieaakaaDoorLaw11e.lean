/-
  The walk of a law of layer 11: with one byte of the hidden part changed the key that comes out is turned by both digests: it is the key just if these are alike. No statement of the seed is proved here.
-/
import Derived.Test.YtmjeojbdieaakaaDoorLaw11a
import Derived.Test.YtmjeojbdieaakaaDoorAp8
import Derived.Test.YtmjeojbdieaakaaDoorAp9
import Derived.Test.YtmjeojbdieaakaaDoorEq32
import Derived.Test.YtmjeojbdieaakaaDoorApF
import Derived.Test.YtmjeojbdieaakaaDoorPb
import Derived.Great.BuildSlice
namespace Go.Proofs.YtmjeojbdieaakaaDoor
open Go.RowKit
set_option linter.unusedVariables false

/-- The law's key. -/
def keyA (x : UInt8) : List UInt8 := x :: 1 :: List.replicate 30 0
theorem keyA_length (x : UInt8) : (keyA x).length = 32 := by simp [keyA]
theorem builtA (x : UInt8) : Tryd.prog.built 24 [(0, .int .u8 (x.toNat : Int)), (1, .int .u8 1)] = some (bvs (keyA x)).toArray := by kernel_rfl
theorem i64_small {q : Nat} (h : q ≤ 100000) : IntKind.i64.wrap (q : Int) = (q : Int) := IntWalk.i64_in _ (by omega)
theorem wrap64_small {q : Nat} (h : q ≤ 100000) : wrap64 (q : Int) = (q : Int) := IntWalk.wrap64_in _ (by omega)
theorem buildA {ops : Array Oper} {rest : List Oper} {o : Oper} {a : Act} {Q : Exit → Act → World → Prop} {w : World} (hg : o.guard = none) (x y : Operand) (ho : o.op = .build 24 #[(0, x), (1, y)]) (kb : UInt8) (key : List UInt8) (hk : keyA kb = key)
    (hx : a.eval x = .int .u8 (kb.toNat : Int)) (hy : a.eval y = .int .u8 1) (h : wpList Tryd.prog ops Q rest (a.put o.dst (.agg (bvs key).toArray)) w) : wpList Tryd.prog ops Q (o :: rest) a w := by
  subst hk
  refine wpList_buildTo hg 24 _ ho _ rfl (bvs (keyA kb)).toArray ?_ h
  simp only [List.map_toArray, List.map_cons, List.map_nil, hx, hy]
  exact builtA kb

set_option maxRecDepth 100000 in
set_option maxHeartbeats 4000000 in
theorem all11_walk (a0 : Int) (A : Option Addr) (n c : Nat) (bs : List UInt8) (a2 : Int) (w : World) (hgl : Glob w) (h0 : (Lit.int .u8 a0).wf = true) (hr : RdB w A n c bs) (h2 : (Lit.int .u16 a2).wf = true) :
    Calls Tryd.prog 5 #[.int .u8 a0, .slice A n c, .int .u16 a2] w fun e w' => e = .returned (.bool true) ∧ Kept [] w w' := by
  obtain ⟨kb, rfl⟩ := byte_of_int h0
  obtain ⟨t0, t1⟩ := bounds_u16 h2
  obtain ⟨t, rfl⟩ := Int.eq_ofNat_of_zero_le t0
  have hlb := hr.len
  have b1 := hr.cap
  have b2 := hr.most
  unfold maxLen at b2
  have HR := Lib.hid hr
  have HGL := Lib.hid hgl
  have hkb := kb.toNat_lt
  clear h0 h2 t0 hr hgl
  by_cases hbig : 1000 < n
  · go_enter Tryd.func5, Tryd.ntmps5
    go_wp2_with (go_at_call 6; refine (wakes11_any _).mono ?_; rintro e w' ⟨rfl, rfl⟩)
    go_ret
    exact ⟨rfl, Kept.refl _ _⟩
  · obtain ⟨r, hrr⟩ : ∃ r, r = kb.toNat % 9 := ⟨_, rfl⟩
    have r1 : r < 9 := by omega
    have mr : (kb.toNat : Int) % 9 = (r : Int) := by omega
    have tr : (kb.toNat : Int).tmod 9 = (r : Int) := by rw [Int.tmod_eq_emod_of_nonneg (by omega)]; exact mr
    obtain ⟨N, hN⟩ : ∃ N, N = 1 + r := ⟨_, rfl⟩
    have sN : (1 : Int) + (r : Int) = (N : Int) := by omega
    have N1 : 1 ≤ N := by omega
    have N9 : N ≤ 9 := by omega
    have hkl := keyA_length kb
    obtain ⟨key, hkey⟩ : ∃ key, keyA kb = key := ⟨_, rfl⟩
    rw [hkey] at hkl
    have HKY := Lib.hid hkey
    have Hkl := Lib.hid hkl
    have Hsk := Lib.hid (size_of_len (P := Tryd.prog) (ty := 24) size32 hkl)
    have Hok := Lib.hid (bvs_one key)
    have Hzk : Hid ((zb 32).length = (bvs key).length) := Lib.hid (by rw [zb_length, bvs_length, hkl])
    -- the slices
    obtain ⟨C, hC⟩ : ∃ C, clsN n = C := ⟨_, rfl⟩
    have HCv : Hid (clsV (n : Int) = .tuple #[.int .i64 (C : Int), .int .i64 0]) := Lib.hid (by rw [clsV_yes (by omega) (by omega), Int.toNat_natCast, hC])
    have hC2 : C ≤ 1024 := by rw [← hC]; exact clsN_le n
    have hC1 : n + 2 ≤ C := by rw [← hC]; exact clsN_ge (by omega)
    have hb := pack_back (k := N) (key := key) (s := bs) (by omega) hkl N1 (by omega)
    rw [hlb, hC] at hb
    obtain ⟨hp1, -, hp3, hp4, -, -⟩ := hb
    have HPE : Hid (packE (N : Int) n = 0) := Lib.hid (by unfold packE; rw [if_neg hbig, if_neg (by omega)])
    obtain ⟨ls, hls⟩ : ∃ ls, packL (N : Int) key bs = ls := ⟨_, rfl⟩
    rw [hls] at hp1 hp3 hp4
    have HLS := Lib.hid hls
    obtain ⟨S, hS⟩ : ∃ S, sizN C N = S := ⟨_, rfl⟩
    have hS1 : 1 ≤ S := by rw [← hS]; exact sizN_pos N1
    have hmul := (sizN_mul (c := C) N1)
    rw [hS] at hmul
    have hS2 : S ≤ 2000 := by
      have h3 : S ≤ N * S := Nat.le_mul_of_pos_left S (by omega)
      omega
    have hall := (joinE_yes hp3).2.2.2
    rw [Int.toNat_natCast, hp1, hS] at hall
    have hF2 : ls.flatten.length ≤ 2000 := by
      obtain ⟨C', g1, _, _, _, _, _, _, g7⟩ := join_facts hp3
      exact g7
    -- the place
    obtain ⟨D, hD⟩ : ∃ D, D = C + 16 := ⟨_, rfl⟩
    obtain ⟨I, hI⟩ : ∃ I, t % D = I := ⟨_, rfl⟩
    have hID : I < D := by rw [← hI]; exact Nat.mod_lt _ (by omega)
    obtain ⟨q, hq⟩ : ∃ q, I / S = q := ⟨_, rfl⟩
    obtain ⟨j, hj⟩ : ∃ j, I % S = j := ⟨_, rfl⟩
    have hjS : j < S := by rw [← hj]; exact Nat.mod_lt _ (by omega)
    have hqj : q * S + j = I := by rw [← hq, ← hj, Nat.mul_comm]; exact Nat.div_add_mod I S
    have hqN : q < N := by
      rcases Nat.lt_or_ge q N with h3 | h3
      · exact h3
      · have h4 := Nat.mul_le_mul_right S h3
        omega
    have hF16 : C + 48 ≤ ls.flatten.length := by
      obtain ⟨C', g1, _, _, _, _, _, g6, _⟩ := join_facts hp3
      omega
    have HL0 : Hid (∀ l0, ls[0]? = some l0 → l0.length = S) := Lib.hid (fun l0 h => hall l0 (List.mem_of_getElem? h))
    obtain ⟨l, hlq, hlS⟩ : ∃ l, ls[q]? = some l ∧ l.length = S := ⟨ls[q]'(by omega), List.getElem?_eq_getElem _, hall _ (List.getElem_mem _)⟩
    have hch := fun v => changed_facts (v := v) hp3 hp4 hlq (by rw [hp1, hS]; exact hjS) (show I < C + 16 by omega) (by rw [hp1, hS]; exact hqj)
    obtain ⟨F, hF⟩ : ∃ F, ls.flatten = F := ⟨_, rfl⟩
    have HJV : Hid (joinV (C : Int) ls = F) := Lib.hid (by rw [joinV_ok hp3, hF])
    simp only [hF] at hch hF16 hF2
    have HCh := Lib.hid hch
    have HJE := Lib.hid hp3
    have HF16 := Lib.hid hF16
    obtain ⟨W, hW⟩ : ∃ W, shaSum (F.take D) = W := ⟨_, rfl⟩
    have HW := Lib.hid hW
    have HWl : Hid (W.length = 32) := Lib.hid (by rw [← hW]; exact shaSum_length _)
    have Hsw := Lib.hid (size_of_len (P := Tryd.prog) (ty := 24) size32 HWl.out)
    have How := Lib.hid (bvs_one W)
    have Hzw : Hid ((zb 32).length = (bvs W).length) := Lib.hid (by rw [zb_length, bvs_length, HWl.out])
    obtain ⟨m, hm⟩ : ∃ m, F.length = m := ⟨_, rfl⟩
    have Hm := Lib.hid hm
    have m1 : D + 32 ≤ m := by omega
    have HD := Lib.hid hD
    have eD : (C : Int) + 16 = (D : Int) := by omega
    have D1 : 1 ≤ D := by omega
    have D2 : D ≤ 1040 := by omega
    have mI : (t : Int) % (D : Int) = (I : Int) := by rw [← hI]; first | exact (Int.natCast_emod _ _).symm | exact (Int.ofNat_emod _ _).symm
    have tI : (t : Int).tmod (D : Int) = (I : Int) := by rw [Int.tmod_eq_emod_of_nonneg (by omega)]; exact mI
    have d0 : (D : Int) ≠ 0 := by omega
    have HLQ := Lib.hid hlq
    have HLS2 := Lib.hid hlS
    have HNl := Lib.hid hp1
    have mq : (I : Int) / (S : Int) = (q : Int) := by rw [← hq]; first | exact (Int.natCast_ediv _ _).symm | exact (Int.ofNat_ediv _ _).symm
    have mj : (I : Int) % (S : Int) = (j : Int) := by rw [← hj]; first | exact (Int.natCast_emod _ _).symm | exact (Int.ofNat_emod _ _).symm
    have HQ := Lib.hid (And.intro mq mj)
    clear hrr hN hkey hkl hC hls hS hmul hall hF hW hm hD hI hch hp1 hp3 hp4 hF16 hF2 hlb hq hj hqj hlq hlS mq mj
    go_enter Tryd.func5, Tryd.ntmps5
    go_wp2_with (first
      | (go_at_call 6; refine (wakes11_any _).mono ?_; rintro e w' ⟨rfl, rfl⟩)
      | (with_reducible change wpList _ _ _ (⟨_, Op.build _ _, _, _, _, _⟩ :: _) _ _; refine buildA rfl (.tmp 26) (.const (.int .u8 1)) rfl kb key HKY.out rfl rfl ?_)
      | (with_reducible change wpList _ _ _ (⟨_, Op.alloc _, _, _, _, _⟩ :: _) _ _; refine wpList_alloc_blk rfl 24 rfl _ zero32 ?_))
    intro w1 hA1 hk1 hs1
    obtain ⟨a, ha⟩ : ∃ a, a = w.heap.size := ⟨_, rfl⟩
    rw [← ha] at hA1 hs1 ⊢
    have la : w.heap.size ≤ a := by omega
    clear ha hs1
    go_wp2_with (with_reducible change wpList _ _ _ (⟨_, Op.store _ _ _, _, _, _, _⟩ :: _) _ _; refine wpList_store_blk rfl 24 (.tmp 7) (.tmp 27) rfl a (bvs key) rfl rfl 24 (zb 32) hA1 Hsk.out Hzk.out Hok.out ?_)
    intro w2 hA2 hk2 hs2
    have HK2 : Hid (Kept [] w w2) := Lib.hid (hk1.trans hk2 (fun i hi => .inr (by have := List.mem_singleton.1 hi; omega)))
    have HA2 := Lib.hid hA2
    clear hA1 hk1 hk2 hs2 hA2
    go_wp2_with (with_reducible change wpList _ _ _ (⟨_, Op.load _ (Operand.tmp 7), _, _, _, _⟩ :: _) _ _; refine wpList_load_blk rfl 24 (.tmp 7) rfl a rfl 24 _ _ HA2.out arr32b rfl Hsk.out ?_)
    refine (aPack_any key A n c (N : Int) bs _ Hkl.out (HR.out.kept0 HK2.out) (HGL.out.kept0 HK2.out)).mono ?_
    rw [HPE.out, HLS.out]
    rintro e w3 ⟨A3, n3, c3, rfl, hO3, hk3⟩
    have HK3 := Lib.hid (HK2.out.andThen hk3)
    have HA3 := Lib.hid (HA2.out.kept0 hk3)
    have HO3 := Lib.hid hO3
    have HN2 := Lib.hid hO3.rdl.len
    have x1 := hO3.rdl.cap
    have x2 := hO3.rdl.most
    unfold maxLen at x2
    have HS3 : Hid (a < w2.heap.size) := Lib.hid HA2.out.lt
    clear hO3 hk3 HA2 HLS HPE HKY
    go_wp2_with fail
    refine (aCls_any _ _).mono ?_
    rw [HCv.out]
    rintro e w' ⟨rfl, rfl⟩
    go_wp2_with fail
    refine (rAJoin_any (C : Int) A3 n3 c3 ls _ HO3.out.rdl).mono ?_
    rw [HJE.out, HJV.out]
    rintro e w4 ⟨v4, rfl, ho4, hk4, _⟩
    obtain ⟨A4, m4, c4, rfl, hr4, _⟩ := ho4.form
    obtain rfl : m = m4 := by have := hr4.len; rw [Hm.out] at this; exact this
    obtain ⟨A5, hr5, q5⟩ := hr4.cutTo (P := Tryd.prog) 22 5 Tryd.underlying22 size1ap D (D : Int) rfl (by omega)
    have HK4 := Lib.hid (HK3.out.andThen hk4)
    have HA4 := Lib.hid (HA3.out.kept0 hk4)
    have HO4 := Lib.hid (HO3.out.kept0 hk4)
    have Hr5 := Lib.hid hr5
    have x3 := hr4.cap
    have x4 := hr4.most
    unfold maxLen at x4
    have DM : (D : Int) ≤ (m : Int) := by omega
    clear ho4 hk4 hr4 hr5 HA3 HO3 HK3
    go_wp2_with fail
    refine (rSum_any A5 D c4 (F.take D) _ Hr5.out (by omega)).mono ?_
    rw [HW.out]
    rintro e w5 ⟨rfl, hk5⟩
    have HK5 := Lib.hid (HK4.out.andThen hk5)
    have HA5 := Lib.hid (HA4.out.kept0 hk5)
    have HO5 := Lib.hid (HO4.out.kept0 hk5)
    clear hk5 HK4 HA4 HO4 Hr5
    go_wp2_with (with_reducible change wpList _ _ _ (⟨_, Op.alloc _, _, _, _, _⟩ :: _) _ _; refine wpList_alloc_blk rfl 24 rfl _ zero32 ?_)
    intro w6 hB6 hk6 hs6
    obtain ⟨b, hb⟩ : ∃ b, b = w5.heap.size := ⟨_, rfl⟩
    rw [← hb] at hB6 hs6 ⊢
    have lb5 : w5.heap.size ≤ b := by omega
    have lb : w.heap.size ≤ b := by have := HK5.out.size; omega
    have hab : a ≠ b := by have := HA5.out.lt; omega
    clear hb hs6
    go_wp2_with (with_reducible change wpList _ _ _ (⟨_, Op.store _ _ _, _, _, _, _⟩ :: _) _ _; refine wpList_store_blk rfl 24 (.tmp 15) (.tmp 57) rfl b (bvs W) rfl rfl 24 (zb 32) hB6 Hsw.out Hzw.out How.out ?_)
    intro w7 hB7 hk7 hs7
    have HK57 : Hid (Kept [] w5 w7) := Lib.hid (hk6.trans hk7 (fun i hi => .inr (by have := List.mem_singleton.1 hi; omega)))
    have HK7 := Lib.hid (HK5.out.andThen HK57.out)
    have HA7 := Lib.hid (HA5.out.kept0 HK57.out)
    have HO7 := Lib.hid (HO5.out.kept0 HK57.out)
    have HB7 := Lib.hid hB7
    clear hB6 hk6 hk7 hs7 hB7 HK5 HA5
    obtain ⟨s, hs⟩ : ∃ s, t / 4096 = s := ⟨_, rfl⟩
    have s15 : s ≤ 15 := by omega
    have v1 : (t : Int) / 4096 = (s : Int) := by omega
    obtain ⟨zz, hzz⟩ : ∃ zz : UInt8, zz.toNat = 1 + s := ⟨UInt8.ofNat (1 + s), by show (1 + s) % 256 = 1 + s; omega⟩
    have v2 : IntKind.u16.wrap (1 + (s : Int)) = (zz.toNat : Int) := by rw [hzz]; show (1 + (s : Int)) % 65536 = _; omega
    have v3 : IntKind.u8.wrap (zz.toNat : Int) = (zz.toNat : Int) := by rw [hzz]; show ((1 + s : Nat) : Int) % 256 = _; omega
    clear hs hzz
    obtain ⟨x, hx⟩ : ∃ x, l[j]? = some x := ⟨l[j]'(by rw [HLS2.out]; exact hjS), List.getElem?_eq_getElem _⟩
    obtain ⟨y, hy⟩ : ∃ y, y = x ^^^ zz := ⟨_, rfl⟩
    have v4 : bits .xor .u8 (x.toNat : Int) (zz.toNat : Int) = (y.toNat : Int) := by rw [bits_xorB, hy]
    obtain ⟨bb, g, cp, x', eA, cq, hx', cg, fg, lg, hR8⟩ := HO7.out.set HLQ.out j y (by rw [HLS2.out]; exact hjS)
    obtain rfl : x = x' := Option.some.inj (hx.symm.trans hx')
    subst eA
    have hgb : g < b := by
      obtain ⟨bb5, g5, cp5, x5', eA5, cq5, _, cg5, _⟩ := HO5.out.set HLQ.out j y (by rw [HLS2.out]; exact hjS)
      injection eA5 with eA5; injection eA5 with eA5
      subst eA5
      have h5 := World.block_lt_of_cell? w5 _ cg5
      have h6 : w7.cell? ⟨bb, q, none⟩ = w5.cell? ⟨bb, q, none⟩ := HK57.out.cell (p := ⟨bb, q, none⟩) (World.block_lt_of_cell? w5 _ cq5) (by simp)
      rw [h6, cq5] at cq
      injection cq with cq; injection cq with cq; injection cq with cq; injection cq with cq
      have h7 : g5 < w5.heap.size := h5
      omega
    have hn3 : n3 = N := by rw [← HN2.out, HNl.out]
    obtain ⟨b', off, A0, n0, c0, l0, e0, _, cl0, hl0, hr0⟩ := HO7.out.rdl.at_ (k := 0) (by omega)
    injection e0 with e0; injection e0 with e1 e2; subst e1 e2
    have hn0 : n0 = S := by rw [← hr0.len]; exact HL0.out l0 hl0
    subst hn0
    rw [HLS2.out] at cq
    have cg' : w7.cell? ⟨g, j, none⟩ = some (.int .u8 (x.toNat : Int)) := cg
    have x5 := hr0.cap
    have x6 := hr0.most
    unfold maxLen at x6
    have q6 : IntKind.i64.wrap (q : Int) = (q : Int) := i64_small (Nat.le_trans (Nat.le_of_lt hqN) (Nat.le_trans N9 (by decide)))
    have k4 : IntKind.i64.wrap (j : Int) = (j : Int) := i64_small (Nat.le_trans (Nat.le_of_lt hjS) (Nat.le_trans hS2 (by decide)))
    have q0 : (n0 : Int) ≠ 0 := by omega
    have q1 := HQ.out.1
    have q2 : (I : Int).tdiv (n0 : Int) = (q : Int) := by rw [Int.tdiv_eq_ediv_of_nonneg (by omega)]; exact q1
    have q3 : IntKind.i64.wrap ((I : Int).tdiv (n0 : Int)) = (q : Int) := by rw [q2]; exact q6
    have q4 : wrap64 ((I : Int) / (n0 : Int)) = (q : Int) := by rw [q1]; exact wrap64_small (Nat.le_trans (Nat.le_of_lt hqN) (Nat.le_trans N9 (by decide)))
    have q5 : ¬ n0 = 0 := by omega
    have k1 := HQ.out.2
    have k2 : (I : Int).tmod (n0 : Int) = (j : Int) := by rw [Int.tmod_eq_emod_of_nonneg (by omega)]; exact k1
    have k3 : IntKind.i64.wrap ((I : Int).tmod (n0 : Int)) = (j : Int) := by rw [k2]; exact k4
    have zq : (q : Int) < (n3 : Int) := by rw [hn3]; exact Int.ofNat_lt.2 hqN
    have zj : (j : Int) < (n0 : Int) := Int.ofNat_lt.2 hjS
    have zn : (0 : Int) < (n3 : Int) := by rw [hn3]; exact Int.ofNat_lt.2 N1
    have zn2 : 0 < n3 := by rw [hn3]; exact N1
    have zn3 : ¬ n3 = 0 := Nat.pos_iff_ne_zero.1 zn2
    have cl0' : w7.cell? ⟨bb, 0, none⟩ = some (.slice A0 n0 c0) := cl0
    have hK8 : Kept [g] w7 (w7.setCell ⟨g, j, none⟩ (.int .u8 (y.toNat : Int))) := (Kept.refl _ _).setCell (by simp) _
    have HR8 : Hid (RdL (w7.setCell ⟨g, j, none⟩ (.int .u8 (y.toNat : Int))) (some ⟨bb, 0, none⟩) n3 c3 (ls.set q (l.set j y))) := Lib.hid hR8
    have HKs := Lib.hid hK8
    have lgw : w2.heap.size ≤ g := lg
    have LG := Lib.hid lg
    clear cg cl0 hx hx' hy hl0 hr0 hR8 hK8 lg hn3
    go_wp2
    go_still_tail 23, (by kernel_rfl)
    change wpList _ _ _ _ _ w7.drew
    have hch := HCh.out y
    have hjE := hch.1
    have hjV := hch.2.1
    rw [← HD.out] at hch
    obtain ⟨ls2, hl2⟩ : ∃ ls2, ls.set q (l.set j y) = ls2 := ⟨_, rfl⟩
    obtain ⟨F2, hF2⟩ : ∃ F2, F.set I y = F2 := ⟨_, rfl⟩
    rw [hl2, hF2] at hch
    rw [hl2] at hjE hjV
    rw [hF2] at hjV
    rw [hl2] at HR8
    obtain ⟨M, hM⟩ : ∃ M, shaSum (F2.take D) = M := ⟨_, rfl⟩
    rw [HW.out, hM] at hch
    have HM := Lib.hid hM
    have HMl : Hid (M.length = 32) := Lib.hid (by rw [← hM]; exact shaSum_length _)
    have Hsm := Lib.hid (size_of_len (P := Tryd.prog) (ty := 24) size32 HMl.out)
    have Hom := Lib.hid (bvs_one M)
    have Hzm : Hid ((zb 32).length = (bvs M).length) := Lib.hid (by rw [zb_length, bvs_length, HMl.out])
    obtain ⟨G, hG⟩ : ∃ G, xorL M (xorL W key) = G := ⟨_, rfl⟩
    rw [hG] at hch
    have HJE2 := Lib.hid hjE
    have HJV2 := Lib.hid hjV
    have HKV2 := Lib.hid hch.2.2
    have HG := Lib.hid hG
    have HWk : Hid (W.length = key.length) := Lib.hid (by rw [HWl.out, Hkl.out])
    have HMk : Hid (M.length = key.length) := Lib.hid (by rw [HMl.out, Hkl.out])
    have HGl : Hid (G.length = 32) := Lib.hid (by rw [← hG, xorL_length (by rw [xorL_length HWk.out]; exact HMk.out), xorL_length HWk.out, Hkl.out])
    have Hsg := Lib.hid (size_of_len (P := Tryd.prog) (ty := 24) size32 HGl.out)
    have Hog := Lib.hid (bvs_one G)
    have Hzg : Hid ((zb 32).length = (bvs G).length) := Lib.hid (by rw [zb_length, bvs_length, HGl.out])
    have HFl2 : Hid (F2.length = m) := Lib.hid (by rw [← hF2, List.length_set]; exact Hm.out)
    have hd : w7.drew.setCell ⟨g, j, none⟩ (.int .u8 (y.toNat : Int)) = (w7.setCell ⟨g, j, none⟩ (.int .u8 (y.toNat : Int))).drew := rfl
    have HRL : Hid (RdL (w7.drew.setCell ⟨g, j, none⟩ (.int .u8 (y.toNat : Int))) (some ⟨bb, 0, none⟩) n3 c3 ls2) := Lib.hid (by rw [hd]; exact HR8.out.kept0 (Kept.refl [] _).drew)
    have HK78 : Hid (Kept [g] w7 (w7.drew.setCell ⟨g, j, none⟩ (.int .u8 (y.toNat : Int)))) := Lib.hid (by rw [hd]; exact HKs.out.drew)
    have hga : a ≠ g := Nat.ne_of_lt (Nat.lt_of_lt_of_le HS3.out lgw)
    have hbg : b ≠ g := Nat.ne_of_gt hgb
    have lgw0 : w.heap.size ≤ g := Nat.le_trans HK2.out.size lgw
    clear hch hjE hjV hl2 hF2 hM hG hd HKs HR8 hgb
    go_wp2_with fail
    refine (rAJoin_any (C : Int) (some ⟨bb, 0, none⟩) n3 c3 ls2 _ HRL.out).mono ?_
    rw [HJE2.out, HJV2.out]
    rintro e w9 ⟨v9, rfl, ho9, hk9, _⟩
    have hk9' : Kept [] (w7.drew.setCell ⟨g, j, none⟩ (.int .u8 (y.toNat : Int))) w9 := hk9
    obtain ⟨A9, m9, c9, rfl, hr9, _⟩ := ho9.form
    obtain rfl : m = m9 := by have := hr9.len; rw [HFl2.out] at this; exact this
    have HRL9 := Lib.hid (HRL.out.kept0 hk9')
    have HK79 : Hid (Kept [g] w7 w9) := Lib.hid (HK78.out.andThen hk9')
    have HK9 : Hid (Kept [] w w9) := Lib.hid (HK7.out.trans HK79.out (fun i hi => .inr (by have := List.mem_singleton.1 hi; omega)))
    have HA9 := Lib.hid (HA7.out.kept HK79.out (by simpa using hga))
    have HB9 := Lib.hid (HB7.out.kept HK79.out (by simpa using hbg))
    obtain ⟨Ar, hrr, qr⟩ := hr9.cutTo (P := Tryd.prog) 22 5 Tryd.underlying22 size1ap D (D : Int) rfl (by omega)
    have Hrr := Lib.hid hrr
    have x7 := hr9.cap
    have x8 := hr9.most
    unfold maxLen at x8
    clear ho9 hk9 hk9' hr9 hrr HK79 HRL HK78 HA7 HB7 HK7 HO7 HO5 HK57
    go_wp2_with fail
    refine (rSum_any Ar D c9 (F2.take D) _ Hrr.out (by omega)).mono ?_
    rw [HM.out]
    rintro e w10 ⟨rfl, hk10⟩
    have HK10 := Lib.hid (HK9.out.andThen hk10)
    have HA10 := Lib.hid (HA9.out.kept0 hk10)
    have HB10 := Lib.hid (HB9.out.kept0 hk10)
    have HL10 := Lib.hid (HRL9.out.kept0 hk10)
    clear hk10 HK9 HA9 HB9 HRL9 Hrr
    go_wp2_with (with_reducible change wpList _ _ _ (⟨_, Op.alloc _, _, _, _, _⟩ :: _) _ _; refine wpList_alloc_blk rfl 24 rfl _ zero32 ?_)
    intro w11 hC11 hk11 hs11
    obtain ⟨f, hf⟩ : ∃ f, f = w10.heap.size := ⟨_, rfl⟩
    rw [← hf] at hC11 hs11 ⊢
    have lf10 : w10.heap.size ≤ f := by omega
    have hfa : a ≠ f := by have := HA10.out.lt; omega
    have hfb : b ≠ f := by have := HB10.out.lt; omega
    clear hf hs11
    go_wp2_with (with_reducible change wpList _ _ _ (⟨_, Op.store _ _ _, _, _, _, _⟩ :: _) _ _; refine wpList_store_blk rfl 24 (.tmp 17) (.tmp 96) rfl f (bvs M) rfl rfl 24 (zb 32) hC11 Hsm.out Hzm.out Hom.out ?_)
    intro w12 hC12 hk12 hs12
    have HK1012 : Hid (Kept [] w10 w12) := Lib.hid (hk11.trans hk12 (fun i hi => .inr (by have := List.mem_singleton.1 hi; omega)))
    have HK12 := Lib.hid (HK10.out.andThen HK1012.out)
    have HA12 := Lib.hid (HA10.out.kept0 HK1012.out)
    have HB12 := Lib.hid (HB10.out.kept0 HK1012.out)
    have HL12 := Lib.hid (HL10.out.kept0 HK1012.out)
    have HC12 := Lib.hid hC12
    clear hC11 hk11 hk12 hs12 hC12 HK10 HA10 HB10 HL10 HK1012 lf10
    go_wp2_with fail
    refine (aKey_any (C : Int) (some ⟨bb, 0, none⟩) n3 c3 ls2 _ HL12.out (HGL.out.kept0 HK12.out)).mono ?_
    rw [HJE2.out, HKV2.out]
    rintro e w13 ⟨rfl, hk13⟩
    have HK13 := Lib.hid (HK12.out.andThen hk13)
    have HA13 := Lib.hid (HA12.out.kept0 hk13)
    have HB13 := Lib.hid (HB12.out.kept0 hk13)
    have HC13 := Lib.hid (HC12.out.kept0 hk13)
    clear hk13 HK12 HA12 HB12 HC12 HL12
    go_wp2_with (with_reducible change wpList _ _ _ (⟨_, Op.alloc _, _, _, _, _⟩ :: _) _ _; refine wpList_alloc_blk rfl 24 rfl _ zero32 ?_)
    intro w14 hD14 hk14 hs14
    obtain ⟨h, hh⟩ : ∃ h, h = w13.heap.size := ⟨_, rfl⟩
    rw [← hh] at hD14 hs14 ⊢
    have lh : w13.heap.size ≤ h := by omega
    clear hh hs14
    go_wp2_with (with_reducible change wpList _ _ _ (⟨_, Op.store _ _ _, _, _, _, _⟩ :: _) _ _; refine wpList_store_blk rfl 24 (.tmp 18) (.tmp 101) rfl h (bvs G) rfl rfl 24 (zb 32) hD14 Hsg.out Hzg.out Hog.out ?_)
    intro w15 hD15 hk15 hs15
    have HK1315 : Hid (Kept [] w13 w15) := Lib.hid (hk14.trans hk15 (fun i hi => .inr (by have := List.mem_singleton.1 hi; omega)))
    have HK15 := Lib.hid (HK13.out.andThen HK1315.out)
    have HA15 := Lib.hid (HA13.out.kept0 HK1315.out)
    have HB15 := Lib.hid (HB13.out.kept0 HK1315.out)
    have HC15 := Lib.hid (HC13.out.kept0 HK1315.out)
    have HD15 := Lib.hid hD15
    clear hD14 hk14 hk15 hs15 hD15 HK13 HA13 HB13 HC13 HK1315 lh
    have HTA : Hid (∀ (i : Nat) (x y z : UInt8), key[i]? = some x → W[i]? = some y → M[i]? = some z → G[i]? = some (x ^^^ y ^^^ z)) := Lib.hid (fun i x y z h1 h2 h3 => by rw [← HG.out]; exact turned_at h1 h2 h3)
    have HTS : Hid (((G == key) == (W == M)) = true) := Lib.hid (by
      have h1 := turned_same HWk.out HMk.out
      rw [HG.out] at h1
      by_cases h2 : W = M
      · have h3 := h1.2 h2
        rw [h2, h3]
        simp
      · have h3 : ¬ G = key := fun h => h2 (h1.1 h)
        rw [beq_eq_false_iff_ne.2 h2, beq_eq_false_iff_ne.2 h3]
        rfl)
    have hnd : decide ((1000 : Int) < (n : Int)) = false := decide_eq_false (by omega)
    go_wp2
    rw [hnd]
    clear hnd
    go_loopw [103] (fun i wr => ∃ jj : Nat, jj ≤ 32 ∧ i = .int .i64 (jj : Int) ∧ Kept [] w15 wr) (fun i _ => 32 - (intOf i).toNat)
    case atStart => exact ⟨0, by omega, rfl, Kept.refl _ _⟩
    case round =>
      obtain ⟨jj, hjj, rfl, hK⟩ := hrel
      by_cases hlt : jj < 32
      · obtain ⟨y1, h1⟩ : ∃ y1, key[jj]? = some y1 := ⟨key[jj]'(by rw [Hkl.out]; exact hlt), List.getElem?_eq_getElem _⟩
        obtain ⟨y2, h2⟩ : ∃ y2, W[jj]? = some y2 := ⟨W[jj]'(by rw [HWl.out]; exact hlt), List.getElem?_eq_getElem _⟩
        obtain ⟨y3, h3⟩ : ∃ y3, M[jj]? = some y3 := ⟨M[jj]'(by rw [HMl.out]; exact hlt), List.getElem?_eq_getElem _⟩
        have h4 := HTA.out jj y1 y2 y3 h1 h2 h3
        obtain ⟨s1, hs1⟩ : ∃ s1, s1 = y1 ^^^ y2 := ⟨_, rfl⟩
        obtain ⟨s2, hs2⟩ : ∃ s2, s2 = s1 ^^^ y3 := ⟨_, rfl⟩
        have e1 : bits .xor .u8 (y1.toNat : Int) (y2.toNat : Int) = (s1.toNat : Int) := by rw [bits_xorB, hs1]
        have e2 : bits .xor .u8 (s1.toNat : Int) (y3.toNat : Int) = (s2.toNat : Int) := by rw [bits_xorB, hs2]
        rw [← hs1, ← hs2] at h4
        have c1 : wr.cell? ⟨h, jj, none⟩ = some (.int .u8 (s2.toNat : Int)) := by rw [(HD15.out.kept0 hK).cell, bvs, List.getElem?_map, h4]; rfl
        have c2 : wr.cell? ⟨a, jj, none⟩ = some (.int .u8 (y1.toNat : Int)) := by rw [(HA15.out.kept0 hK).cell, bvs, List.getElem?_map, h1]; rfl
        have c3 : wr.cell? ⟨b, jj, none⟩ = some (.int .u8 (y2.toNat : Int)) := by rw [(HB15.out.kept0 hK).cell, bvs, List.getElem?_map, h2]; rfl
        have c4 : wr.cell? ⟨f, jj, none⟩ = some (.int .u8 (y3.toNat : Int)) := by rw [(HC15.out.kept0 hK).cell, bvs, List.getElem?_map, h3]; rfl
        have zk : (jj : Int) < 32 := by omega
        clear h1 h2 h3 h4 hs1 hs2
        go_wp2
        go_quiet (fail)
        go_wp2
        go_roundw
        case rel => exact ⟨jj + 1, by omega, by go_num, hK.drewN nq⟩
        case measure => simp [intOf]; omega
      · have SK : Hid (∀ W', Kept [] wr W' → W'.rangeAt h 0 (bvs G) ∧ W'.rangeAt a 0 (bvs key) ∧ W'.rangeAt b 0 (bvs W) ∧ W'.rangeAt f 0 (bvs M)) := Lib.hid (fun W' h' => ⟨(HD15.out.kept0 (hK.andThen h')).rangeOf, (HA15.out.kept0 (hK.andThen h')).rangeOf, (HB15.out.kept0 (hK.andThen h')).rangeOf, (HC15.out.kept0 (hK.andThen h')).rangeOf⟩)
        go_wp2
        have hHeld := SK.out _ (Kept.refl [] wr).drew
        refine wp_region_begin (fun W' => W'.rangeAt h 0 (bvs G) ∧ W'.rangeAt a 0 (bvs key) ∧ W'.rangeAt b 0 (bvs W) ∧ W'.rangeAt f 0 (bvs M)) (by kernel_rfl) ?_
        refine held_pureD 0 122 (.int .i64 0) rfl rfl (by kernel_rfl) (by kernel_rfl) (by kernel_rfl) rfl (fun w _ => rfl) hHeld ?_
        simp only [Act.put, List.setIfInBounds_toArray, List.set_cons_succ, List.set_cons_zero]
        refine held_pureD 1 123 (.bool true) rfl rfl (by kernel_rfl) (by kernel_rfl) (by kernel_rfl) rfl (fun w _ => rfl) hHeld ?_
        simp only [Act.put, List.setIfInBounds_toArray, List.set_cons_succ, List.set_cons_zero]
        refine held_pureD 2 124 (.bool true) rfl rfl (by kernel_rfl) (by kernel_rfl) (by kernel_rfl) rfl (fun w _ => rfl) hHeld ?_
        simp only [Act.put, List.setIfInBounds_toArray, List.set_cons_succ, List.set_cons_zero]
        refine held_loadD 3 125 rfl rfl (by kernel_rfl) (by kernel_rfl) (by kernel_rfl) rfl 24 (.tmp 18) rfl h 0 rfl (bvs G) _ (fun w h => h.1) arr32b rfl Hsg.out hHeld ?_
        simp only [Act.put, List.setIfInBounds_toArray, List.set_cons_succ, List.set_cons_zero]
        refine held_loadD 4 126 rfl rfl (by kernel_rfl) (by kernel_rfl) (by kernel_rfl) rfl 24 (.tmp 7) rfl a 0 rfl (bvs key) _ (fun w h => h.2.1) arr32b rfl Hsk.out hHeld ?_
        simp only [Act.put, List.setIfInBounds_toArray, List.set_cons_succ, List.set_cons_zero]
        refine held_pureD 5 127 (.bool (G == key)) rfl rfl (by kernel_rfl) (by kernel_rfl) (by kernel_rfl) rfl (fun w _ => run_eql32 _ _ (.tmp 125) (.tmp 126) _ rfl G key HGl.out Hkl.out rfl rfl w) hHeld ?_
        simp only [Act.put, List.setIfInBounds_toArray, List.set_cons_succ, List.set_cons_zero]
        refine held_loadD 6 128 rfl rfl (by kernel_rfl) (by kernel_rfl) (by kernel_rfl) rfl 24 (.tmp 15) rfl b 0 rfl (bvs W) _ (fun w h => h.2.2.1) arr32b rfl Hsw.out hHeld ?_
        simp only [Act.put, List.setIfInBounds_toArray, List.set_cons_succ, List.set_cons_zero]
        refine held_loadD 7 129 rfl rfl (by kernel_rfl) (by kernel_rfl) (by kernel_rfl) rfl 24 (.tmp 17) rfl f 0 rfl (bvs M) _ (fun w h => h.2.2.2) arr32b rfl Hsm.out hHeld ?_
        simp only [Act.put, List.setIfInBounds_toArray, List.set_cons_succ, List.set_cons_zero]
        refine held_pureD 8 130 (.bool (W == M)) rfl rfl (by kernel_rfl) (by kernel_rfl) (by kernel_rfl) rfl (fun w _ => run_eql32 _ _ (.tmp 128) (.tmp 129) _ rfl W M HWl.out HMl.out rfl rfl w) hHeld ?_
        simp only [Act.put, List.setIfInBounds_toArray, List.set_cons_succ, List.set_cons_zero]
        refine held_pureD 9 131 (.bool ((G == key) == (W == M))) rfl rfl (by kernel_rfl) (by kernel_rfl) (by kernel_rfl) rfl (fun w _ => rfl) hHeld ?_
        simp only [Act.put, List.setIfInBounds_toArray, List.set_cons_succ, List.set_cons_zero]
        rw [HTS.out]
        refine held_pureD 10 132 (.bool true) rfl rfl (by kernel_rfl) (by kernel_rfl) (by kernel_rfl) rfl (fun w _ => rfl) hHeld ?_
        simp only [Act.put, List.setIfInBounds_toArray, List.set_cons_succ, List.set_cons_zero]
        refine held_pureD 11 6 (.bool true) rfl rfl (by kernel_rfl) (by kernel_rfl) (by kernel_rfl) rfl (fun w _ => rfl) hHeld ?_
        simp only [Act.put, List.setIfInBounds_toArray, List.set_cons_succ, List.set_cons_zero]
        refine held_done (by kernel_rfl) ?_
        clear hHeld
        go_wp2
        go_ret
        exact ⟨rfl, (HK15.out.andThen hK).drew⟩
end Go.Proofs.YtmjeojbdieaakaaDoor
