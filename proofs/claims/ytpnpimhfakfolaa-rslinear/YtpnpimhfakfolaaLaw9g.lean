/-
  Walk of layer 9's law RsLinear. No statement of the seed is proved here.
-/
import Derived.Test.YtpnpimhfakfolaaLaw9d
import Derived.Test.YtpnpimhfakfolaaMemStep
import Derived.Deep.QuietTactic
namespace Go.Proofs.Ytpnpimhfakfolaa
open Go.RowKit
set_option linter.unusedVariables false

/-- Texts added, one by one. -/
def zx (la lb : List (List UInt8)) : List (List UInt8) := List.zipWith (List.zipWith (fun x y : UInt8 => x ^^^ y)) la lb
theorem zx_get {la lb : List (List UInt8)} {i : Nat} {p r : List UInt8} (h1 : la[i]? = some p) (h2 : lb[i]? = some r) : (zx la lb)[i]? = some (List.zipWith (fun x y : UInt8 => x ^^^ y) p r) := by
  unfold zx
  rw [List.getElem?_zipWith, h1, h2]
theorem one1_lens (ls : List (List UInt8)) : one1 ls = (ls.map List.length).all (fun x => x == (ls.map List.length).getD 0 0) := by
  unfold one1
  rw [List.all_map]
  congr 1
  funext l
  have : (ls.map List.length).getD 0 0 = (ls.getD 0 []).length := by
    rw [List.getD_eq_getElem?_getD, List.getD_eq_getElem?_getD, List.getElem?_map]
    cases ls[0]? <;> rfl
  show (l.length == (ls.getD 0 []).length) = (l.length == (ls.map List.length).getD 0 0)
  rw [this]
theorem tkn_lens {k : Nat} {la lb : List (List UInt8)} (h : la.map List.length = lb.map List.length) : tkn k la = tkn k lb := by
  unfold tkn
  have h1 : la.length = lb.length := by have := congrArg List.length h; simpa using this
  rw [one1_lens la, one1_lens lb, h, h1]
theorem lens_of {la lb : List (List UInt8)} (h0 : la.length = lb.length) (h : ∀ (j : Nat) (p r : List UInt8), la[j]? = some p → lb[j]? = some r → p.length = r.length) : la.map List.length = lb.map List.length ∧ la.map List.length = (zx la lb).map List.length := by
  constructor
  · apply List.ext_getElem?
    intro i
    rw [List.getElem?_map, List.getElem?_map]
    by_cases hi : i < la.length
    · rw [List.getElem?_eq_getElem hi, List.getElem?_eq_getElem (by omega : i < lb.length)]
      exact congrArg some (h i _ _ (List.getElem?_eq_getElem hi) (List.getElem?_eq_getElem (by omega)))
    · rw [List.getElem?_eq_none (by omega), List.getElem?_eq_none (by omega)]
  · apply List.ext_getElem?
    intro i
    rw [List.getElem?_map, List.getElem?_map]
    by_cases hi : i < la.length
    · have e1 : la[i]? = some la[i] := List.getElem?_eq_getElem hi
      have e2 : lb[i]? = some (lb[i]'(by omega)) := List.getElem?_eq_getElem (by omega)
      rw [zx_get e1 e2, e1]
      have := h i _ _ e1 e2
      show some _ = some _
      rw [List.length_zipWith]
      congr 1
      omega
    · rw [List.getElem?_eq_none (by omega), List.getElem?_eq_none (by unfold zx; rw [List.length_zipWith]; omega)]
theorem zx_ofm (k N : Nat) (xa xb : Nat → Nat → GB) : zx (ofm k N xa) (ofm k N xb) = ofm k N (fun i c => xa i c + xb i c) := by
  refine rm_ext (by unfold zx; rw [List.length_zipWith, ofm_length, ofm_length]; omega) (fun i hi => ?_)
  rw [zx_get (ofm_get hi) (ofm_get hi)]
  congr 1
  refine rm_ext (by rw [List.length_zipWith, rm_length, rm_length]; omega) (fun c hc => ?_)
  rw [List.getElem?_zipWith, rm_get hc, rm_get hc]
  rfl
theorem mm_add (k : Nat) (a xa xb : Nat → Nat → GB) (i c : Nat) : mm k a (fun i c => xa i c + xb i c) i c = mm k a xa i c + mm k a xb i c := by
  unfold mm
  rw [← sm_add]
  exact sm_congr fun l _ => Fld.mul_add _ _ _

set_option maxRecDepth 100000 in
set_option maxHeartbeats 4000000 in
theorem linear9_walk (K N : Int) (A : Option Addr) (n c : Nat) (la : List (List UInt8)) (A' : Option Addr) (n' c' : Nat) (lb : List (List UInt8)) (w : World) (hl : RdL w A n c la) (hr : RdL w A' n' c' lb) :
    Calls Try.prog 8 #[.agg #[.int .i64 K, .int .i64 N], .slice A n c, .slice A' n' c'] w fun e w' => e = .returned (.bool true) ∧ Kept [] w w' := by
  have HT := Lib.hid hr
  have HL := Lib.hid hl
  have b1 := hl.cap
  have b2 := hl.most
  have b3 := hr.cap
  have b4 := hr.most
  unfold maxLen at b2 b4
  obtain ⟨i0, hi0, hz0, hz1, hz2⟩ := info_parts u8info
  obtain ⟨i2, ht0, hu0, hu1, hu2⟩ := info_parts tBinfo8
  have HB0 := Lib.hid (Blk.new w 23 [.int .i64 K, .int .i64 N])
  have HK0 := Lib.hid ((Kept.refl [] w).alloc (.cells #[.int .i64 K, .int .i64 N] 23))
  clear hl hr
  go_enter Try.func8, Try.ntmps8
  go_wp2_with fail
  refine (wakes9_any _).mono ?_
  rintro e w1 ⟨rfl, hk1⟩
  obtain ⟨d, hd⟩ : ∃ d, d = w.heap.size := ⟨_, rfl⟩
  have hB1 := HB0.out.kept0 hk1
  rw [← hd] at hB1 ⊢
  have HB1 := Lib.hid hB1
  have HK1 := Lib.hid (HK0.out.andThen hk1)
  clear hB1 hk1 HB0 HK0 hd
  have d0 : w1.cell? ⟨d, 0, none⟩ = some (.int .i64 K) := HB1.out.cell 0
  have d1 : w1.cell? ⟨d, 1, none⟩ = some (.int .i64 N) := HB1.out.cell 1
  go_wp2_with fail
  refine (code9_any K N _).mono ?_
  clear d0 d1
  rintro e w2 ⟨hk2, ⟨HR, rfl⟩ | rfl | ⟨k, m, q, p, Ac, cc, rfl, rfl, h1k, hkm, hk8, hm24, rfl, HC⟩⟩
  · have hB2 := HB1.out.kept0 hk2
    have HK2 := Lib.hid (HK1.out.andThen hk2)
    have HR' : Hid (K < 1 ∨ (1 ≤ K ∧ N < K) ∨ (1 ≤ K ∧ K ≤ N ∧ 255 < N)) := Lib.hid (by have := HR.out; unfold Rt9 at this; omega)
    have d0 : w2.cell? ⟨d, 0, none⟩ = some (.int .i64 K) := hB2.cell 0
    have d1 : w2.cell? ⟨d, 1, none⟩ = some (.int .i64 N) := hB2.cell 1
    clear hk2 hB2 HR HK1 HB1
    go_wp2_with fail
    refine (rightD9_no _ _ _ HR'.out).mono ?_
    rintro e w4 ⟨rfl, rfl⟩
    go_wp2
    go_ret
    exact ⟨rfl, HK2.out⟩
  · have HK2 := Lib.hid (HK1.out.andThen hk2)
    clear hk2
    go_wp2
    go_ret
    exact ⟨rfl, HK2.out⟩
  · have HB2 := Lib.hid (HB1.out.kept0 hk2)
    have HK2 := Lib.hid (HK1.out.andThen hk2)
    have HL2 := Lib.hid (HL.out.kept0 (HK1.out.andThen hk2))
    have HT2 := Lib.hid (HT.out.kept0 (HK1.out.andThen hk2))
    have d0 : w2.cell? ⟨d, 0, none⟩ = some (.int .i64 (k : Int)) := HB2.out.cell 0
    have d1 : w2.cell? ⟨d, 1, none⟩ = some (.int .i64 (m : Int)) := HB2.out.cell 1
    clear hk2 HK1 HB1 HL HT
    go_wp2_with fail
    refine (rightD9_yes _ _ _ (by omega)).mono ?_
    rintro e w4 ⟨rfl, rfl⟩
    go_wp2_with fail
    refine (longG_any 10 60 A n c la _ HL2.out (by omega) (by omega)).mono ?_
    rintro e w3 ⟨u, rfl, rfl, HQ⟩
    cases u with
    | true =>
      go_wp2
      go_ret
      exact ⟨rfl, HK2.out⟩
    | false =>
      obtain ⟨hn10, hb60⟩ := HQ.out rfl
      have HQa := Lib.hid hb60
      clear hb60 HQ
      go_wp2_with fail
      refine (longG_any 10 60 A' n' c' lb _ HT2.out (by omega) (by omega)).mono ?_
      rintro e w3 ⟨u, rfl, rfl, HQ⟩
      cases u with
      | true =>
        go_wp2
        go_ret
        exact ⟨rfl, HK2.out⟩
      | false =>
        obtain ⟨hn10', hb60⟩ := HQ.out rfl
        have HQb := Lib.hid hb60
        clear hb60 HQ
        by_cases hne : n = n'
        · subst hne
          have HLa := Lib.hid HL2.out.len
          have HLb := Lib.hid HT2.out.len
          have HZ := Lib.hid (fun (i : Nat) (p r : List UInt8) (h1 : la[i]? = some p) (h2 : lb[i]? = some r) => zx_get h1 h2)
          have HZl : Hid ((zx la lb).length = n) := Lib.hid (by unfold zx; rw [List.length_zipWith, HLa.out, HLb.out]; omega)
          obtain ⟨Z, hZ⟩ : ∃ Z, Z = zx la lb := ⟨_, rfl⟩
          rw [← hZ] at HZl
          simp only [← hZ] at HZ
          have HZe := Lib.hid hZ
          obtain ⟨wB, hwB⟩ : ∃ wB, wB = w3 := ⟨_, rfl⟩
          rw [← hwB] at HB2 HK2 HL2 HT2 HC d0 d1 ⊢
          clear hZ hwB
          go_wp2
          clear d0 d1
          go_loopw [10, 57] (fun u i wr => ∃ (t : Nat) (vs : List Value) (A5 : Option Addr) (n5 c5 : Nat), t ≤ n ∧ i = .int .i64 (t : Int) ∧ u = .slice A5 n5 c5 ∧ Hid (OwV 38 wr (.slice A5 n5 c5) vs) ∧ Hid (TxtO wr (.slice A5 n5 c5) vs (Z.take t)) ∧ Hid (∀ (j : Nat) (p r : List UInt8), j < t → la[j]? = some p → lb[j]? = some r → p.length = r.length) ∧ Hid (Kept [] wB wr) ∧ Hid (∀ g, (Value.slice A5 n5 c5).ownBlock = some g → wB.heap.size ≤ g)) (fun _ i _ => n - (intOf i).toNat)
          case atStart => exact ⟨0, [], none, 0, 0, by omega, rfl, rfl, Lib.hid (OwV.nil _ _), Lib.hid (by rw [List.take_zero]; exact TxtO.nil _ _), Lib.hid (fun j p r h => by omega), Lib.hid (Kept.refl _ _), Lib.hid (fun g hg => by simp [Value.ownBlock] at hg)⟩
          case round =>
            obtain ⟨t, vs, A5, n5, c5, ht, rfl, rfl, HO5, HT5, HEq, HK5, Hb5⟩ := hrel
            by_cases hlt : t < n
            · obtain ⟨ba, oa, Ap, np, cp, p, rfl, hba, ea, ga, ra⟩ := HL2.out.at_ hlt
              obtain ⟨bb, ob, Ar, nr, cr, r, rfl, hbb, eb, gb, rb⟩ := HT2.out.at_ hlt
              have x1 := ra.cap
              have x2 := ra.most
              have x3 := rb.cap
              have x4 := rb.most
              unfold maxLen at x2 x4
              have ea' := (HK5.out.cell (p := ⟨ba, oa + t, none⟩) hba (by simp)).trans ea
              have eb' := (HK5.out.cell (p := ⟨bb, ob + t, none⟩) hbb (by simp)).trans eb
              have Hra := Lib.hid ra
              have Hrb := Lib.hid rb
              have Hga := Lib.hid ga
              have Hgb := Lib.hid gb
              have hnp : np ≤ 60 := by rw [← ra.len]; exact HQa.out p (List.mem_of_getElem? ga)
              by_cases hpr : np = nr
              · subst hpr
                have HZt := Lib.hid (HZ.out t p r ga gb)
                have HZn : Hid ((List.zipWith (fun x y : UInt8 => x ^^^ y) p r).length = np) := Lib.hid (by rw [List.length_zipWith, ra.len, rb.len]; omega)
                have HEq2 : Hid (∀ (j : Nat) (p r : List UInt8), j < t + 1 → la[j]? = some p → lb[j]? = some r → p.length = r.length) := Lib.hid (fun j p' r' hj h1 h2 => by
                  by_cases e : j < t
                  · exact HEq.out j p' r' e h1 h2
                  · obtain rfl : j = t := by omega
                    rw [Hga.out] at h1; rw [Hgb.out] at h2
                    obtain rfl := Option.some.inj h1
                    obtain rfl := Option.some.inj h2
                    rw [Hra.out.len, Hrb.out.len])
                have HZk := Lib.hid (fun (j : Nat) (x y : UInt8) (h1 : p[j]? = some x) (h2 : r[j]? = some y) => show (List.zipWith (fun x y : UInt8 => x ^^^ y) p r)[j]? = some (x ^^^ y) by rw [List.getElem?_zipWith, h1, h2])
                generalize List.zipWith (fun x y : UInt8 => x ^^^ y) p r = zr at *
                have SK0 : Hid (∀ W, Kept [] wB W → W.cell? ⟨ba, oa + t, none⟩ = some (.slice Ap np cp) ∧ W.cell? ⟨bb, ob + t, none⟩ = some (.slice Ar np cr)) := Lib.hid (fun W hW => ⟨(hW.cell (p := ⟨ba, oa + t, none⟩) hba (by simp)).trans ea, (hW.cell (p := ⟨bb, ob + t, none⟩) hbb (by simp)).trans eb⟩)
                obtain ⟨wz, hwz⟩ : ∃ wz, wz = wr := ⟨_, rfl⟩
                rw [← hwz] at HO5 HT5 HK5 ea' eb' ⊢
                clear hwz ra rb ga gb hba hbb ea eb
                go_wp2
                go_quiet (fail)
                have ea2 := (SK0.out _ (HK5.out.drewN nq)).1
                go_wp2
                clear ea' eb' ea2
                go_loopw [12, 76] (fun u i wr => ∃ (j : Nat) (A6 : Option Addr) (n6 c6 : Nat), j ≤ np ∧ i = .int .i64 (j : Int) ∧ u = .slice A6 n6 c6 ∧ Hid (OwB 5 wr (.slice A6 n6 c6) (zr.take j)) ∧ Hid (Kept [] wz wr) ∧ Hid (∀ g, (Value.slice A6 n6 c6).ownBlock = some g → wz.heap.size ≤ g)) (fun _ i _ => np - (intOf i).toNat)
                case atStart => exact ⟨0, none, 0, 0, by omega, rfl, rfl, Lib.hid (by rw [List.take_zero]; exact OwB.nil _ _), Lib.hid ((Kept.refl [] wz).drewN _), Lib.hid (fun g hg => by simp [Value.ownBlock] at hg)⟩
                case round =>
                  obtain ⟨j, A6, n6, c6, hj, rfl, rfl, HO6, HK6, Hb6⟩ := hrel
                  by_cases hltj : j < np
                  · obtain ⟨bp, op, xb, rfl, e1, g1, hx⟩ := (Hra.out.kept0 (HK5.out.andThen HK6.out)).byte hltj
                    obtain ⟨bq, oq, yb, rfl, e2, g2, hy⟩ := (Hrb.out.kept0 (HK5.out.andThen HK6.out)).byte hltj
                    have hzj := HZk.out j xb yb g1 g2
                    obtain ⟨s8, hs8⟩ : ∃ s8, s8 = xb ^^^ yb := ⟨_, rfl⟩
                    rw [← hs8] at hzj
                    have rx : bits .xor .u8 (xb.toNat : Int) (yb.toNat : Int) = (s8.toNat : Int) := by rw [bits_xorB, hs8]
                    have hs8b := s8.toNat_lt
                    have HSt := Lib.hid (take_step zr j s8 hzj)
                    have HTl : Hid ((zr.take j).length = j) := Lib.hid (by rw [List.length_take, HZn.out]; omega)
                    have Hg1 := Lib.hid g1
                    have Hg2 := Lib.hid g2
                    have SQ : Hid (∀ W, Kept [] wB W → W.cell? ⟨ba, oa + t, none⟩ = some (.slice (some ⟨bp, op, none⟩) np cp) ∧ W.cell? ⟨bb, ob + t, none⟩ = some (.slice (some ⟨bq, oq, none⟩) np cr) ∧ W.cell? ⟨bp, op + j, none⟩ = some (.int .u8 (xb.toNat : Int)) ∧ W.cell? ⟨bq, oq + j, none⟩ = some (.int .u8 (yb.toNat : Int))) := Lib.hid (fun W hW => by
                      refine ⟨(SK0.out W hW).1, (SK0.out W hW).2, ?_, ?_⟩
                      · obtain ⟨b3, o3, y3, f0, f1, f2, _⟩ := (Hra.out.kept0 hW).byte hltj
                        injection f0 with f0
                        injection f0 with f3 f4
                        subst f3 f4
                        rw [f1]
                        rw [Hg1.out] at f2
                        obtain rfl := Option.some.inj f2
                        rfl
                      · obtain ⟨b3, o3, y3, f0, f1, f2, _⟩ := (Hrb.out.kept0 hW).byte hltj
                        injection f0 with f0
                        injection f0 with f3 f4
                        subst f3 f4
                        rw [f1]
                        rw [Hg2.out] at f2
                        obtain rfl := Option.some.inj f2
                        rfl)
                    have HKr := Lib.hid (HK5.out.andThen HK6.out)
                    have p1 : (0 : Int) ≤ (j : Int) := by omega
                    have p2 : (j : Int) < (np : Int) := by omega
                    have p3 : (0 : Int) ≤ (t : Int) := by omega
                    have p4 : (t : Int) < (n : Int) := by omega
                    clear hzj hs8 g1 g2 e1 e2 hx hy Hg1 Hg2
                    go_wp2
                    go_region_held3 (fun w' => w'.cell? ⟨ba, oa + t, none⟩ = some (.slice (some ⟨bp, op, none⟩) np cp) ∧ w'.cell? ⟨bb, ob + t, none⟩ = some (.slice (some ⟨bq, oq, none⟩) np cr) ∧ w'.cell? ⟨bp, op + j, none⟩ = some (.int .u8 (xb.toNat : Int)) ∧ w'.cell? ⟨bq, oq + j, none⟩ = some (.int .u8 (yb.toNat : Int)))
                      (first
                        | exact SQ.out _ HKr.out.drew
                        | exact SQ.out _ HKr.out
                        | exact SQ.out _ (HKr.out.drew.alloc _)
                        | exact SQ.out _ (HK5.out.andThen hK8))
                      (first
                        | (refine step_append_bytes (by rfl) (.tmp 79) (.tmp 95) 38 (by rfl) 5 i0 _ 1 Try.underlying38 hi0 hz0 hz1 hz2 (by rfl) (.slice A6 n6 c6) (zr.take j) (by rfl) (HO6.out.kept0 ((Kept.refl [] wr).drew.alloc _)) _ 1 1 [s8] (by rfl) (RdB.one wr.drew 5 _ s8 rfl) (by rw [HTl.out]; simp only [maxLen]; omega) (by rw [HTl.out]; omega) ?_; intro v8 w8 ho8 hk8 hm8; obtain ⟨hK8, hb8⟩ := app_new (HK6.out.drew.alloc _) Hb6.out hk8 hm8; obtain ⟨A8, n8, c8, rfl, _, _⟩ := ho8.form))
                    rw [← HSt.out] at ho8
                    have HO8 := Lib.hid ho8
                    have HK8 := Lib.hid hK8
                    have Hb8 := Lib.hid hb8
                    clear ho8 hK8 hb8 hk8 hm8 HSt HTl HO6 HK6 Hb6 SQ rx HKr
                    go_wp2
                    go_roundw
                    case rel => exact ⟨j + 1, A8, n8, c8, by omega, by go_num, rfl, HO8, HK8, Hb8⟩
                    case measure => simp [intOf]; omega
                  · obtain rfl : np = j := by omega
                    have hr6 := HO6.out.rd
                    rw [List.take_of_length_le (by rw [HZn.out]; omega)] at hr6
                    have HO56 := Lib.hid (HO5.out.kept0 HK6.out)
                    have hT2 : TxtO wr (.slice A5 n5 c5) [.slice A6 n6 c6] [zr] := by
                      refine TxtO.one hr6 (fun _ g hg a ha => ?_)
                      subst ha
                      have e1 := Hb6.out a.block rfl
                      have e2 : g < wz.heap.size := by obtain ⟨_, _, _, _, _, hh⟩ := HO5.out.form; exact hh g hg
                      omega
                    have hT6 := (HT5.out.kept0 HK6.out).append hT2
                    rw [← take_step Z t zr HZt.out] at hT6
                    have HT6 := Lib.hid hT6
                    have HV : Hid (vs.length = t) := Lib.hid (by rw [HT5.out.1, List.length_take, HZl.out]; omega)
                    have HA6 : Hid (Kept [] wB (wr.alloc (.cells #[.slice A6 n6 c6] 38))) := Lib.hid ((HK5.out.andThen HK6.out).alloc _)
                    have HA7 : Hid (Kept [] wr (wr.alloc (.cells #[.slice A6 n6 c6] 38))) := Lib.hid ((Kept.refl [] wr).alloc _)
                    clear hr6 hT2 hT6 HT5 HO5 HO6 HK6 Hb6 HEq SK0 HZk HZn
                    go_wp2_with (at_builtin; refine wpList_append_vals rfl (.tmp 98) (.tmp 100) 24 rfl 38 i2 _ 24 Try.underlying24 ht0 hu0 hu1 hu2 rfl (.slice A5 n5 c5) vs rfl (HO56.out.alloc _) _ 1 1 [.slice A6 n6 c6] rfl (RdV.one wr 38 _) (by simp [Value.oneCell']) (by rw [HV.out]; simp only [maxLen]; omega) (by rw [HV.out]; omega) ?_)
                    intro v8 w8 ho8 hk8 hm8
                    obtain ⟨hK8, hb8⟩ := app_new HA6.out Hb5.out hk8 hm8
                    have HT8 := Lib.hid ((HT6.out.kept0 HA7.out).app hk8 hm8)
                    obtain ⟨A8, n8, c8, rfl, _, _⟩ := ho8.form
                    have HO8 := Lib.hid ho8
                    have HK8 := Lib.hid hK8
                    have Hb8 := Lib.hid hb8
                    clear ho8 hK8 hb8 hk8 hm8 HA6 HA7 HT6 Hb5 HV HO56 HK5
                    go_wp2
                    go_roundw
                    case rel => exact ⟨t + 1, _, A8, n8, c8, by omega, by go_num, rfl, HO8, HT8, HEq2, HK8, Hb8⟩
                    case measure => simp [intOf]; omega
              · have hE : ((np : Int) != (nr : Int)) = true := by simp; omega
                clear hpr ra rb ga gb
                go_wp2
                go_quiet (fail)
                go_wp2
                go_ret
                exact ⟨rfl, (HK2.out.andThen HK5.out).drewN _⟩
            · obtain rfl : n = t := by omega
              have HL5 : Hid (RdL wr A5 n5 c5 Z) := Lib.hid (by
                have h := RdL.of_vals HO5.out.rd HT5.out.txt
                rw [List.take_of_length_le (by rw [HZl.out]; omega)] at h
                exact h)
              have hlens := lens_of (la := la) (lb := lb) (by rw [HLa.out, HLb.out]) (fun j p r h1 h2 => HEq.out j p r (by have := (List.getElem?_eq_some_iff.1 h1).1; rw [HLa.out] at this; exact this) h1 h2)
              have tb := tkn_lens (k := k) hlens.1
              have tz := tkn_lens (k := k) hlens.2
              rw [← HZe.out] at tz
              have HKw := Lib.hid (HK2.out.andThen HK5.out)
              have HCw := Lib.hid (HC.out.kept0 HK5.out)
              have HLw := Lib.hid (HL2.out.kept0 HK5.out)
              have HTw := Lib.hid (HT2.out.kept0 HK5.out)
              have HBw := Lib.hid (HB2.out.kept0 HK5.out)
              clear HO5 HT5 HEq HK5 Hb5 HK2 HC HL2 HT2 HB2 HZ
              cases ht : tkn k la with
              | false =>
                have E1 := Lib.hid (fun W (hW : Kept [] wr W) => encode9_no q m k p Ac cc A n c la W (HCw.out.kept0 hW) (HLw.out.kept0 hW) ht)
                have E2 := Lib.hid (fun W (hW : Kept [] wr W) => encode9_no q m k p Ac cc A' n c' lb W (HCw.out.kept0 hW) (HTw.out.kept0 hW) (by rw [← tb]; exact ht))
                have E3 := Lib.hid (fun W (hW : Kept [] wr W) => encode9_no q m k p Ac cc A5 n5 c5 Z W (HCw.out.kept0 hW) (HL5.out.kept0 hW) (by rw [← tz]; exact ht))
                clear hlens tb tz ht
                go_wp2_with fail
                refine (E1.out _ (Kept.refl [] wr)).mono ?_
                rintro e w6 ⟨A6, n6, c6, rfl, _, hk6⟩
                have H6 := Lib.hid hk6
                clear hk6
                go_wp2_with fail
                refine (E2.out _ H6.out).mono ?_
                rintro e w7 ⟨A7, n7, c7, rfl, _, hk7⟩
                have H7 := Lib.hid (H6.out.andThen hk7)
                clear hk7
                go_wp2_with fail
                refine (E3.out _ H7.out).mono ?_
                rintro e w8 ⟨A8, n8, c8, rfl, _, hk8'⟩
                have H8 := Lib.hid (H7.out.andThen hk8')
                clear hk8'
                go_wp2
                go_ret
                exact ⟨rfl, HKw.out.andThen H8.out⟩
              | true =>
                have ht2 : tkn k lb = true := by rw [← tb]; exact ht
                have hZe := HZe.out
                unfold tkn at ht ht2
                rw [Bool.and_eq_true, decide_eq_true_iff] at ht ht2
                obtain ⟨hta, hoa⟩ := ht
                obtain ⟨htb, hob⟩ := ht2
                obtain rfl : k = n := by rw [← hta]; exact HLa.out
                obtain ⟨Na, hNa, hea⟩ := one1_form hta hoa
                obtain ⟨Nb, hNb, heb⟩ := one1_form htb hob
                have hNN : Na = Nb := by
                  have e1 : ∀ l : List (List UInt8), (l.map List.length).getD 0 0 = (l.getD 0 []).length := fun l => by
                    rw [List.getD_eq_getElem?_getD, List.getD_eq_getElem?_getD, List.getElem?_map]
                    cases l[0]? <;> rfl
                  rw [hNa, hNb, ← e1 la, ← e1 lb, hlens.1]
                subst hNN
                have hN60 : Na ≤ 60 := by
                  rw [hNa, List.getD_eq_getElem?_getD, List.getElem?_eq_getElem (by omega)]
                  exact HQa.out _ (List.getElem_mem _)
                generalize ent la = xa at hea
                generalize ent lb = xb at heb
                rw [hea, heb, zx_ofm] at hZe
                rw [hZe] at HL5
                rw [hea] at HLw
                rw [heb] at HTw
                have E1 := Lib.hid (fun W (hW : Kept [] wr W) => encode9_any q m k p Ac cc A k c Na xa W (HCw.out.kept0 hW) (HLw.out.kept0 hW) (by omega))
                have E2 := Lib.hid (fun W (hW : Kept [] wr W) => encode9_any q m k p Ac cc A' k c' Na xb W (HCw.out.kept0 hW) (HTw.out.kept0 hW) (by omega))
                have E3 := Lib.hid (fun W (hW : Kept [] wr W) => encode9_any q m k p Ac cc A5 n5 c5 Na _ W (HCw.out.kept0 hW) (HL5.out.kept0 hW) (by omega))
                clear hlens tb tz hta hoa htb hob hNa hNb hea heb hZe HZe HZl HQa HQb HLa HLb
                go_wp2_with fail
                refine (E1.out _ (Kept.refl [] wr)).mono ?_
                rintro e w6 ⟨A6, n6, c6, rfl, hr6, hk6⟩
                have H6 := Lib.hid hk6
                have R6 := Lib.hid hr6
                clear hk6 hr6
                go_wp2_with fail
                refine (E2.out _ H6.out).mono ?_
                rintro e w7 ⟨A7, n7, c7, rfl, hr7, hk7⟩
                have H7 := Lib.hid (H6.out.andThen hk7)
                have R67 := Lib.hid (R6.out.kept0 hk7)
                have R7 := Lib.hid hr7
                clear hk7 hr7
                go_wp2_with fail
                refine (E3.out _ H7.out).mono ?_
                rintro e w8 ⟨A8, n8, c8, rfl, hr8, hk8'⟩
                have H8 := Lib.hid (H7.out.andThen hk8')
                have R68 := Lib.hid (R67.out.kept0 hk8')
                have R78 := Lib.hid (R7.out.kept0 hk8')
                have R8 := Lib.hid hr8
                obtain rfl : m = n8 := by have := hr8.len; unfold pcs at this; rw [ofm_length] at this; exact this
                obtain rfl : m = n7 := by have := R78.out.len; unfold pcs at this; rw [ofm_length] at this; exact this
                obtain rfl : m = n6 := by have := R68.out.len; unfold pcs at this; rw [ofm_length] at this; exact this
                have u1 := R8.out.cap
                have u2 := R8.out.most
                have u3 := R78.out.cap
                have u4 := R78.out.most
                have u5 := R68.out.cap
                have u6 := R68.out.most
                unfold maxLen at u2 u4 u6
                have HB8 := Lib.hid (HBw.out.kept0 H8.out)
                have HKe := Lib.hid (HKw.out.andThen H8.out)
                clear hk8' hr8 E1 E2 E3 R6 R67 R7 H6 H7 H8 HBw HKw HCw HLw HTw HL5
                go_wp2
                go_loopw [143] (fun i wr => ∃ i' : Nat, i' ≤ m ∧ i = .int .i64 (i' : Int) ∧ Hid (Kept [] w8 wr)) (fun i _ => m - (intOf i).toNat)
                case atStart => exact ⟨0, by omega, rfl, Lib.hid (Kept.refl _ _)⟩
                case round =>
                  obtain ⟨i, hi, rfl, HK⟩ := hrel
                  by_cases hli : i < m
                  · obtain ⟨bz, oz, Az, nz, cz, lz, rfl, hbz, ez, gz, rz⟩ := R8.out.at_ hli
                    unfold pcs at gz
                    rw [ofm_get hli] at gz
                    obtain rfl := Option.some.inj gz
                    obtain rfl : Na = nz := by rw [← rz.len, rm_length]
                    have y1 := rz.cap
                    have y2 := rz.most
                    unfold maxLen at y2
                    have ez' := (HK.out.cell (p := ⟨bz, oz + i, none⟩) hbz (by simp)).trans ez
                    obtain ⟨wv, hwv⟩ : ∃ wv, wv = wr := ⟨_, rfl⟩
                    rw [← hwv] at HK ez' ⊢
                    clear hwv rz gz hbz ez
                    go_wp2
                    clear ez'
                    go_loopw [151] (fun i wr => ∃ j' : Nat, j' ≤ Na ∧ i = .int .i64 (j' : Int) ∧ Hid (Kept [] w8 wr)) (fun i _ => Na - (intOf i).toNat)
                    case atStart => exact ⟨0, by omega, rfl, HK⟩
                    case round =>
                      clear HK
                      obtain ⟨j, hj, rfl, HK⟩ := hrel
                      by_cases hlj : j < Na
                      · obtain ⟨b1', o1', bo1, of1, cc1, e1, l1, c1', l1', k1', k1'', x1⟩ := RdL.mrow (R8.out.kept0 HK.out) (show 0 < Na by omega) hli
                        obtain ⟨b2', o2', bo2, of2, cc2, e2, l2, c2', l2', k2', k2'', x2⟩ := RdL.mrow (R68.out.kept0 HK.out) (show 0 < Na by omega) hli
                        obtain ⟨b3', o3', bo3, of3, cc3, e3, l3, c3', l3', k3', k3'', x3⟩ := RdL.mrow (R78.out.kept0 HK.out) (show 0 < Na by omega) hli
                        injection e1 with e1
                        injection e1 with f1 f2
                        subst f1 f2
                        subst e2 e3
                        have z1 := x1 j hlj
                        have z2 := x2 j hlj
                        have z3 := x3 j hlj
                        unfold bcell at z1 z2 z3
                        unfold maxLen at k1'' k2'' k3''
                        have hv : (mm k (rsr k) (fun i c => xa i c + xb i c) i j).v = (mm k (rsr k) xa i j).v ^^^ (mm k (rsr k) xb i j).v := by rw [mm_add]; rfl
                        obtain ⟨zb, hzb⟩ : ∃ zb, zb = (mm k (rsr k) (fun i c => xa i c + xb i c) i j).v := ⟨_, rfl⟩
                        obtain ⟨ab, hab⟩ : ∃ ab, ab = (mm k (rsr k) xa i j).v := ⟨_, rfl⟩
                        obtain ⟨bb, hbb⟩ : ∃ bb, bb = (mm k (rsr k) xb i j).v := ⟨_, rfl⟩
                        rw [← hzb] at z1 hv
                        rw [← hab] at z2 hv
                        rw [← hbb] at z3 hv
                        have rx : bits .xor .u8 (ab.toNat : Int) (bb.toNat : Int) = (zb.toNat : Int) := by rw [bits_xorB, hv]
                        have p1 : (0 : Int) ≤ (j : Int) := by omega
                        have p2 : (j : Int) < (Na : Int) := by omega
                        have p3 : (0 : Int) ≤ (i : Int) := by omega
                        have p4 : (i : Int) < (m : Int) := by omega
                        clear x1 x2 x3 hv hzb hab hbb l1 l2 l3 l1' l2' l3'
                        go_wp2
                        go_quiet (fail)
                        go_wp2
                        go_roundw
                        case rel => exact ⟨j + 1, by omega, by go_num, Lib.hid (HK.out.drewN _)⟩
                        case measure => simp [intOf]; omega
                      · obtain rfl : Na = j := by omega
                        go_wp2
                        go_roundw
                        case rel => exact ⟨i + 1, by omega, by go_num, HK⟩
                        case measure => simp [intOf]; omega
                  · obtain rfl : m = i := by omega
                    have d1 : wr.cell? ⟨d, 1, none⟩ = some (.int .i64 (m : Int)) := (HB8.out.kept0 HK.out).cell 1
                    go_wp2
                    go_ret
                    first | exact ⟨rfl, HKe.out.andThen HK.out⟩ | exact ⟨ret_bool (by simp), HKe.out.andThen HK.out⟩
        · have hE : ((n : Int) != (n' : Int)) = true := by simp; omega
          go_wp2
          go_ret
          exact ⟨rfl, HK2.out⟩
end Go.Proofs.Ytpnpimhfakfolaa
