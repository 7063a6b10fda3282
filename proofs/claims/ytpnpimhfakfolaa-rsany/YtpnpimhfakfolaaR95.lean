/-
  Contract of the document's own Solve. No statement of the seed is proved here.
-/
import Derived.Test.YtpnpimhfakfolaaR94
import Derived.Deep.QuietTactic
import Derived.StillTailTactics
namespace Go.Proofs.Ytpnpimhfakfolaa
open Go.RowKit
set_option linter.unusedVariables false

set_option maxRecDepth 100000 in
set_option maxHeartbeats 8000000 in
theorem solve9_any (k n N : Nat) (y : Int) (A1 : Option Addr) (M1 c1 : Nat) (f : Nat → Int) (sel : Nat → Nat) (V : Nat → Nat → GB) (A2 : Option Addr) (c2 : Nat) (x : Nat → Nat → GB) (w : World) (hy : y = (k : Int)) (h1k : 1 ≤ k) (hkn : k ≤ n) (hn : n ≤ 255) (hkm : k ≤ M1) (hN : N ≤ 1000000) (h1 : RdI w A1 M1 c1 f) (hf : ∀ t, t < M1 → f t = (sel t : Int) ∧ sel t < n) (hV : BackP k sel V) (hl : RdL w A2 M1 c2 (ofm M1 N x)) :
    Calls Try.prog 37 #[.int .i64 y, .slice A1 M1 c1, .slice A2 M1 c2] w (LRet (ofm k N (mm k V x)) w) := by
  subst hy
  have H1 := Lib.hid h1
  have HF := Lib.hid hf
  have hl2 := hl.first k hkm
  rw [ofm_take hkm] at hl2
  have HL := Lib.hid hl2
  have b1 := RdV.cap h1
  have b2 := RdV.most h1
  have b3 := hl.cap
  have b4 := hl.most
  unfold maxLen at b2 b4
  obtain ⟨A0, hA0⟩ : ∃ A0 : Nat → Nat → GB, A0 = fun t j => rsr k (sel t) j := ⟨_, rfl⟩
  have HI : Hid (Indep k k A0) := Lib.hid (by rw [hA0]; exact indep_of_inv hV)
  have HX : Hid (∀ i, i < k → ∀ c, c < N → mm k A0 (mm k V x) i c = x i c) := Lib.hid (fun i hi c hc => by
    rw [← mm_assoc]
    have hr := inv_right hV
    rw [mm_congr (a' := un) (b' := x) (fun j hj => by rw [hA0]; exact hr i hi j hj) (fun _ _ => rfl), mm_un_left x hi])
  have HA0 : Hid (∀ t j, rsr k (sel t) j = A0 t j) := Lib.hid (fun t j => by rw [hA0])
  obtain ⟨X, hX⟩ : ∃ X, X = mm k V x := ⟨_, rfl⟩
  rw [← hX] at HX ⊢
  obtain ⟨i1, hj0, hy0, hy1, hy2⟩ := info_parts tBinfo8
  have hcut := fun W => run_cut_first (P := Try.prog) 24 38 Try.underlying24 sizeLb A2 M1 c2 k (k : Int) rfl (by omega) W
  clear h1 hf hl hl2 hV hA0 hX
  go_enter Try.func37, Try.ntmps37
  go_wp2
  go_loopw [7, 8] (fun v i wr => ∃ (r : Nat) (vs : List Value) (A5 : Option Addr) (n5 c5 : Nat), r ≤ k ∧ i = .int .i64 r ∧ v = .slice A5 n5 c5 ∧ Hid (OwV 38 wr (.slice A5 n5 c5) vs) ∧ Hid (RowsZ w.heap.size wr (.slice A5 n5 c5) vs k r A0) ∧ Hid (Kept [] w wr) ∧ Hid (∀ g, (Value.slice A5 n5 c5).ownBlock = some g → w.heap.size ≤ g)) (fun _ i _ => k - (intOf i).toNat)
  case atStart => exact ⟨0, [], none, 0, 0, by omega, rfl, rfl, Lib.hid (OwV.nil _ _), Lib.hid (RowsZ.nil _ _ _ _ _), Lib.hid (Kept.refl _ _), Lib.hid (fun g hg => by simp [Value.ownBlock] at hg)⟩
  case round =>
    obtain ⟨r, vs, A5, n5, c5, hr, rfl, rfl, HO5, HT5, HK5, Hb5⟩ := hrel
    by_cases hlt : r < k
    · obtain ⟨bi, oi, rfl, hbi, d0⟩ := (H1.out.kept0 HK5.out).at_ (i := r) (by omega)
      obtain ⟨hfr, hsn⟩ := HF.out r (by omega)
      rw [hfr] at d0
      obtain ⟨s, hs⟩ : ∃ s, s = sel r := ⟨_, rfl⟩
      rw [← hs] at d0 hsn
      have hrM : r < M1 := by omega
      have HE : Hid (∀ j, rsr k s j = A0 r j) := Lib.hid (fun j => by rw [hs]; exact HA0.out r j)
      clear hfr hs hbi
      go_wp2_with fail
      refine (rowD9_any k s _ _ _ rfl rfl h1k (by omega) (by omega)).mono ?_
      rintro e w6 ⟨g, cp, rfl, hO6, hg6, hk6⟩
      have hO6' := hO6.congr (fun j _ => HE.out j)
      have hT6 := HT5.out.snoc (A := some ⟨g, 0, none⟩) (c := cp) hk6 HK5.out.size (by obtain ⟨_, _, _, _, _, hh⟩ := HO5.out.form; exact hh) hO6.cap hO6.most (fun _ => ⟨g, rfl, hO6', hg6⟩)
      have HT6 := Lib.hid hT6
      have HV : Hid (vs.length = r) := Lib.hid HT5.out.length
      have HO6 := Lib.hid (HO5.out.kept0 hk6)
      have HA : Hid (Kept [] w (w6.alloc (.cells #[.slice (some ⟨g, 0, none⟩) k cp] 38))) := Lib.hid ((HK5.out.andThen hk6).alloc _)
      have HA6 : Hid (Kept [] w6 (w6.alloc (.cells #[.slice (some ⟨g, 0, none⟩) k cp] 38))) := Lib.hid ((Kept.refl [] w6).alloc _)
      clear hT6 hO6 hO6' hg6 hk6 HE HO5 HT5 HK5 d0
      go_wp2_with (at_builtin; refine wpList_append_vals rfl (.tmp 26) (.tmp 33) 24 rfl 38 i1 _ 24 Try.underlying24 hj0 hy0 hy1 hy2 rfl (.slice A5 n5 c5) vs rfl (HO6.out.alloc _) _ 1 1 [.slice (some ⟨g, 0, none⟩) k cp] rfl (RdV.one w6 38 _) (by simp [Value.oneCell']) (by rw [HV.out]; simp only [maxLen]; omega) (by rw [HV.out]; omega) ?_)
      intro v8 w8 ho8 hk8 hm8
      obtain ⟨hK8, hb8⟩ := app_new HA.out Hb5.out hk8 hm8
      have HT8 := Lib.hid ((HT6.out.kept0 HA6.out).app hk8 hm8)
      obtain ⟨A8, n8, c8, rfl, _, _⟩ := ho8.form
      have HO8 := Lib.hid ho8
      have HK8 := Lib.hid hK8
      have Hb8 := Lib.hid hb8
      clear ho8 hK8 hb8 hk8 hm8 HA HA6 HT6 Hb5 HV HO6
      go_wp2
      go_roundw
      case rel => exact ⟨r + 1, _, A8, n8, c8, by omega, by go_num, rfl, HO8, HT8, HK8, Hb8⟩
      case measure => simp [intOf]; omega
    · obtain rfl : k = r := by omega
      have hT := HT5.out
      obtain rfl : k = n5 := by have := HO5.out.rd.len; rw [hT.length] at this; exact this
      obtain ⟨m1, rfl, _⟩ := HO5.out.own (by omega)
      obtain ⟨G1, g1, p1, hO1, hg1⟩ := hT.own HO5.out (by omega)
      have hm1 := Hb5.out m1 rfl
      have q1 := HO5.out.rd.cap
      have q2 := HO5.out.rd.most
      unfold maxLen at q2
      have HO1 := Lib.hid hO1
      have HG1 := Lib.hid hg1
      have HL5 := Lib.hid (HL.out.kept0 HK5.out)
      clear hT HT5 Hb5 HO5 hO1 hg1 H1 HF HL HA0
      go_wp2_with fail
      refine (copyZ9_any A2 k c2 N x _ HL5.out h1k (by omega) hN).mono ?_
      rintro e w3 ⟨m2, c3, G2, g2, p2, rfl, q3, q4, hO2, hm2, hg2, hk3⟩
      unfold maxLen at q4
      have HD : Hid (Duo w.heap.size w3 m1 m2 k N G1 g1 p1 A0 G2 g2 p2 x) := Lib.hid (by
        have l1 := HO1.out.lt
        have hK5 := HK5.out.size
        have gl : ∀ i, i < k → g1 i < wr.heap.size := fun i hi => by
          obtain ⟨cs, hB⟩ := HO1.out.blk (by omega) i hi
          exact hB.lt
        exact ⟨HO1.out.kept0 hk3, hO2, by omega, hm1, by omega, fun h i hi => HG1.out h i hi, fun h i hi => by have := hg2 h i hi; omega, fun _ i hi => by have := gl i hi; omega, fun h i hi => by have := hg2 h i hi; omega, fun h i hi i' hi' => by have := hg2 h i' hi'; have := gl i hi; omega⟩)
      have HS : Hid (Sst k N 0 X A0 x) := Lib.hid (Sst.start HI.out HX.out)
      have HK : Hid (Kept [] w w3) := Lib.hid (HK5.out.andThen hk3)
      clear hO2 hm1 hm2 hg2 hk3 HO1 HG1 HL5 HK5 HX HI hcut
      go_wp2
      go_loopw [10] (fun v wr => ∃ (C : Nat) (G1 : Nat → Option Addr) (g1 p1 : Nat → Nat) (m : Nat → Nat → GB) (G2 : Nat → Option Addr) (g2 p2 : Nat → Nat) (l : Nat → Nat → GB), C ≤ k ∧ v = .int .i64 (C : Int) ∧ Hid (Duo w.heap.size wr m1 m2 k N G1 g1 p1 m G2 g2 p2 l) ∧ Hid (Sst k N C X m l) ∧ Hid (Kept [] w wr)) (fun v _ => k - (intOf v).toNat)
      case atStart => exact ⟨0, G1, g1, p1, A0, G2, g2, p2, x, by omega, rfl, HD, HS, HK⟩
      case round =>
        clear HD HS HK
        obtain ⟨C, G1, g1, p1, m, G2, g2, p2, l, hC, rfl, HD, HS, HK⟩ := hrel
        by_cases hlC : C < k
        · obtain ⟨q, hq1, hq2, hq3⟩ := HS.out.pivot hlC
          have HQ := Lib.hid hq3
          clear hq3
          obtain ⟨wz, hwz⟩ : ∃ wz, wz = wr := ⟨_, rfl⟩
          rw [← hwz] at HD HK ⊢
          clear hwz
          go_wp2
          go_loopw [11] (fun v wr => ∃ p : Nat, C ≤ p ∧ p ≤ q ∧ v = .int .i64 (p : Int) ∧ wr = wz) (fun v _ => q - (intOf v).toNat)
          case atStart => exact ⟨C, by omega, hq1, rfl, rfl⟩
          case round =>
            obtain ⟨p, hp1, hp2, rfl, rfl⟩ := hrel
            have hpk : p < k := by omega
            have k0 : 0 < k := by omega
            have d1 := HD.out.A.rowG hpk k0
            have d2 := HD.out.A.byte hpk hlC
            have r1 := (HD.out.A.cap p hpk).1
            have r2 := (HD.out.A.cap p hpk).2
            unfold maxLen at r2
            by_cases hz : m p C = 0
            · have hpq : p < q := by
                rcases Nat.lt_or_ge p q with h | h
                · exact h
                · obtain rfl : p = q := by omega
                  exact absurd hz HQ.out
              rw [hz] at d2
              have d3 : wr.cell? ⟨g1 p, C, none⟩ = some (.int .u8 0) := d2
              clear d2 hz
              go_wp2
              go_roundw
              case rel => exact ⟨p + 1, by omega, by omega, by go_num, trivial⟩
              case measure => simp [intOf]; omega
            · have HZ := Lib.hid hz
              obtain ⟨xb, hxb⟩ : ∃ xb, xb = (m p C).v := ⟨_, rfl⟩
              rw [← hxb] at d2
              have hx0 : ((xb.toNat : Int) == 0) = false := by
                have : xb.toNat ≠ 0 := fun e => gb_ne hz (by rw [← hxb]; exact UInt8.toNat_inj.1 e)
                simp [this]
              have hxl := xb.toNat_lt
              have dC := HD.out.A.rowG hlC k0
              have f1 := HD.out.A.frzB p
              have HD6 : Hid (Duo w.heap.size ((wr.setCell ⟨m1, p, none⟩ (.slice (some ⟨g1 C, 0, none⟩) k (p1 C))).setCell ⟨m1, C, none⟩ (.slice (some ⟨g1 p, 0, none⟩) k (p1 p))) m1 m2 k N (fun i => G1 (swi C p i)) (fun i => g1 (swi C p i)) (fun i => p1 (swi C p i)) (fun i => m (swi C p i)) G2 g2 p2 l) := Lib.hid (by
                have h := HD.out.swapA hlC hpk
                rw [HD.out.A.own k0 C hlC, HD.out.A.own k0 p hpk] at h
                exact h)
              have HK6 : Hid (Kept [] w ((wr.setCell ⟨m1, p, none⟩ (.slice (some ⟨g1 C, 0, none⟩) k (p1 C))).setCell ⟨m1, C, none⟩ (.slice (some ⟨g1 p, 0, none⟩) k (p1 p)))) := Lib.hid ((HK.out.setCell (.inr HD.out.n1) _).setCell (.inr HD.out.n1) _)
              obtain ⟨u5, d5, f5⟩ : ∃ u5, (wr.setCell ⟨m1, p, none⟩ (.slice (some ⟨g1 C, 0, none⟩) k (p1 C))).cell? ⟨m1, C, none⟩ = some u5 ∧ (wr.setCell ⟨m1, p, none⟩ (.slice (some ⟨g1 C, 0, none⟩) k (p1 C))).frozen? ⟨m1, C, none⟩ = false := by
                obtain ⟨cs, hB⟩ := HD.out.A.bk
                refine ⟨.slice (some ⟨g1 C, 0, none⟩) k (p1 C), ?_, (hB.set p _).frz C⟩
                rw [cell_set hB d1]
                split
                · rfl
                · exact dC
              clear hz hxb HD HK
              go_wp2_with (first
                | (with_reducible change wpList _ _ _ (⟨some 73, Op.load _ _, _, _, _, _⟩ :: _) _ (World.setCell _ _ _)
                   generalize (wr.setCell ⟨m1, p, none⟩ (.slice (some ⟨g1 C, 0, none⟩) k (p1 C))).setCell ⟨m1, C, none⟩ (.slice (some ⟨g1 p, 0, none⟩) k (p1 p)) = w6 at *
                   clear d1 d2 hx0 hxl dC f1 d5 f5 r1 r2
                   have d1 := HD6.out.B.row p hpk
                   have dC := HD6.out.B.row C hlC
                   have f1 := HD6.out.B.frzB p
                   have HD7 := Lib.hid (HD6.out.swapB hlC hpk)
                   have HK7 : Hid (Kept [] w ((w6.setCell ⟨m2, p, none⟩ (.slice (G2 C) N (p2 C))).setCell ⟨m2, C, none⟩ (.slice (G2 p) N (p2 p)))) := Lib.hid ((HK6.out.setCell (.inr HD6.out.n2) _).setCell (.inr HD6.out.n2) _)
                   obtain ⟨u5, d5, f5⟩ : ∃ u5, (w6.setCell ⟨m2, p, none⟩ (.slice (G2 C) N (p2 C))).cell? ⟨m2, C, none⟩ = some u5 ∧ (w6.setCell ⟨m2, p, none⟩ (.slice (G2 C) N (p2 C))).frozen? ⟨m2, C, none⟩ = false := by
                     obtain ⟨cs, hB⟩ := HD6.out.B.bk
                     refine ⟨.slice (G2 C) N (p2 C), ?_, (hB.set p _).frz C⟩
                     rw [cell_set hB d1]
                     split
                     · rfl
                     · exact dC
                   clear HD6 HK6)
                | (with_reducible change wpList _ _ _ (⟨some 88, Op.load _ _, _, _, _, _⟩ :: _) _ (World.setCell _ _ _)
                   generalize (w6.setCell ⟨m2, p, none⟩ (.slice (G2 C) N (p2 C))).setCell ⟨m2, C, none⟩ (.slice (G2 p) N (p2 p)) = w7 at *
                   clear d1 dC f1 d5 f5
                   obtain ⟨H1, h1, e1, m', H2, h2, e2, l', HD8, HS8, HZ8⟩ : ∃ H1 h1 e1 m' H2 h2 e2 l', Hid (Duo w.heap.size w7 m1 m2 k N H1 h1 e1 m' H2 h2 e2 l') ∧ Hid (Sst k N C X m' l') ∧ Hid (m' C C ≠ 0) := ⟨_, _, _, _, _, _, _, _, HD7, Lib.hid (HS.out.swap hp1 hpk), Lib.hid (by
                     show m (swi C p C) C ≠ 0
                     unfold swi
                     rw [if_pos rfl]
                     exact HZ.out)⟩
                   clear HD7 HS HZ
                   have d1 := HD8.out.A.rowG hlC k0
                   have r1 := (HD8.out.A.cap C hlC).1
                   have r2 := (HD8.out.A.cap C hlC).2
                   unfold maxLen at r2
                   have d2 := HD8.out.A.byte hlC hlC
                   obtain ⟨xb, hxb⟩ : ∃ xb, xb = (m' C C).v := ⟨_, rfl⟩
                   obtain ⟨cv, hcv⟩ : ∃ cv, cv = ginv 0x1d xb := ⟨_, rfl⟩
                   obtain ⟨W, hW⟩ : ∃ W, W = Fld.inv (m' C C) := ⟨_, rfl⟩
                   have HW : Hid (W.v = cv) := Lib.hid (by rw [hW, gb_inv, ← hxb, hcv])
                   have HWe := Lib.hid hW
                   rw [← hxb] at d2
                   have hxl := xb.toNat_lt
                   have hcl := cv.toNat_lt
                   have HC := Lib.hid (invR9_q xb cv w7 hcv)
                   clear hxb hcv hW))
              refine HC.out.mono ?_
              rintro e w8 ⟨rfl, hw8⟩
              subst hw8
              clear d1 d2 HC r1 r2
              go_wp2
              go_loopw [15] (fun v wu => ∃ j : Nat, j ≤ k ∧ v = .int .i64 (j : Int) ∧ Hid (Duo w.heap.size wu m1 m2 k N H1 h1 e1 (sc9 W m' C j) H2 h2 e2 l') ∧ Hid (Kept [] w wu)) (fun v _ => k - (intOf v).toNat)
              case atStart => exact ⟨0, by omega, rfl, Lib.hid (HD8.out.congr (fun x _ y _ => sc9_start.symm) (fun _ _ _ _ => rfl)), HK7⟩
              case round =>
                clear HD8 HK7
                obtain ⟨j, hj, rfl, HD, HK⟩ := hrel
                by_cases hlj : j < k
                · have d1 := HD.out.A.rowG hlC k0
                  have d2 := HD.out.A.byte hlC hlj
                  rw [sc9_here (Nat.le_refl j)] at d2
                  have r1 := (HD.out.A.cap C hlC).1
                  have r2 := (HD.out.A.cap C hlC).2
                  unfold maxLen at r2
                  obtain ⟨xb, hxb⟩ : ∃ xb, xb = (m' C j).v := ⟨_, rfl⟩
                  obtain ⟨z, hz⟩ : ∃ z, z = gmul 0x1d cv xb := ⟨_, rfl⟩
                  rw [← hxb] at d2
                  have hv : (W * m' C j).v = z := by rw [gb_mul, HW.out, ← hxb, hz]
                  have HF : Hid (Duo w.heap.size (wr.setCell ⟨h1 C, j, none⟩ (.int .u8 (z.toNat : Int))) m1 m2 k N H1 h1 e1 (sc9 W m' C (j + 1)) H2 h2 e2 l') := Lib.hid (by
                    have h := HD.out.setA hlC hlj (W * m' C j)
                    rw [hv] at h
                    exact h.congr (fun x _ y _ => sc9_set) (fun _ _ _ _ => rfl))
                  have HF2 : Hid (Kept [] w (wr.setCell ⟨h1 C, j, none⟩ (.int .u8 (z.toNat : Int)))) := Lib.hid (HK.out.setCell (.inr (HD.out.n3 k0 C hlC)) _)
                  have f1 := HD.out.A.frz hlC k0 j
                  have HM : Hid (∀ W, Calls Try.prog 43 #[.int .u8 (cv.toNat : Int), .int .u8 (xb.toNat : Int)] W fun e w' => e = .returned (.int .u8 (z.toNat : Int)) ∧ w' = W) := Lib.hid (fun W => mulR9_q cv xb z W hz)
                  have b5 := xb.toNat_lt
                  have b7 := z.toNat_lt
                  clear hv hxb hz HD HK hxl
                  go_wp2
                  go_still_tail 15, (by kernel_rfl)
                  still_call (HM.out _)
                  repeat still_step
                  refine wpStill_nil ?_
                  change wpList _ _ _ _ _ wr.drew
                  go_wp2
                  go_roundw
                  case rel => exact ⟨j + 1, by omega, by go_num, Lib.hid (HF.out.kept0 ((Kept.refl [] _).drewN 1)), Lib.hid (HF2.out.drewN 1)⟩
                  case measure => simp [intOf]; omega
                · obtain rfl : k = j := by omega
                  go_wp2
                  go_loopw [16] (fun v wu => ∃ j : Nat, j ≤ N ∧ v = .int .i64 (j : Int) ∧ Hid (Duo w.heap.size wu m1 m2 k N H1 h1 e1 (sc9 W m' C k) H2 h2 e2 (sc9 W l' C j)) ∧ Hid (Kept [] w wu)) (fun v _ => N - (intOf v).toNat)
                  case atStart => exact ⟨0, by omega, rfl, Lib.hid (HD.out.congr (fun _ _ _ _ => rfl) (fun x _ y _ => sc9_start.symm)), HK⟩
                  case round =>
                    clear HD HK
                    obtain ⟨j, hj, rfl, HD, HK⟩ := hrel
                    by_cases hlj : j < N
                    · have N0 : 0 < N := by omega
                      have d1 := HD.out.B.rowG hlC N0
                      have d2 := HD.out.B.byte hlC hlj
                      rw [sc9_here (Nat.le_refl j)] at d2
                      have r1 := (HD.out.B.cap C hlC).1
                      have r2 := (HD.out.B.cap C hlC).2
                      unfold maxLen at r2
                      obtain ⟨xb, hxb⟩ : ∃ xb, xb = (l' C j).v := ⟨_, rfl⟩
                      obtain ⟨z, hz⟩ : ∃ z, z = gmul 0x1d cv xb := ⟨_, rfl⟩
                      rw [← hxb] at d2
                      have hv : (W * l' C j).v = z := by rw [gb_mul, HW.out, ← hxb, hz]
                      have HF : Hid (Duo w.heap.size (wr.setCell ⟨h2 C, j, none⟩ (.int .u8 (z.toNat : Int))) m1 m2 k N H1 h1 e1 (sc9 W m' C k) H2 h2 e2 (sc9 W l' C (j + 1))) := Lib.hid (by
                        have h := HD.out.setB hlC hlj (W * l' C j)
                        rw [hv] at h
                        exact h.congr (fun _ _ _ _ => rfl) (fun x _ y _ => sc9_set))
                      have HF2 : Hid (Kept [] w (wr.setCell ⟨h2 C, j, none⟩ (.int .u8 (z.toNat : Int)))) := Lib.hid (HK.out.setCell (.inr (HD.out.n4 N0 C hlC)) _)
                      have f1 := HD.out.B.frz hlC N0 j
                      have HM : Hid (∀ W, Calls Try.prog 43 #[.int .u8 (cv.toNat : Int), .int .u8 (xb.toNat : Int)] W fun e w' => e = .returned (.int .u8 (z.toNat : Int)) ∧ w' = W) := Lib.hid (fun W => mulR9_q cv xb z W hz)
                      have b5 := xb.toNat_lt
                      have b7 := z.toNat_lt
                      clear hv hxb hz HD HK
                      go_wp2
                      go_still_tail 15, (by kernel_rfl)
                      still_call (HM.out _)
                      repeat still_step
                      refine wpStill_nil ?_
                      change wpList _ _ _ _ _ wr.drew
                      go_wp2
                      go_roundw
                      case rel => exact ⟨j + 1, by omega, by go_num, Lib.hid (HF.out.kept0 ((Kept.refl [] _).drewN 1)), Lib.hid (HF2.out.drewN 1)⟩
                      case measure => simp [intOf]; omega
                    · obtain rfl : N = j := by omega
                      have d1 := HD.out.B.row C hlC
                      have r1 := (HD.out.B.cap C hlC).1
                      have r2 := (HD.out.B.cap C hlC).2
                      unfold maxLen at r2
                      have HL1 : Hid (∀ x, x < k → ∀ y, y < k → cl9 (fun x => sc9 W m' C k x C) (sc9 W m' C k) C k 0 x y = lead1 m' C C x y) := Lib.hid (fun x hx y hy => by rw [HWe.out]; exact cl9_lead1 hlC hx hy)
                      have HL2 : Hid (∀ x, x < k → ∀ y, y < N → cl9 (fun x => sc9 W m' C k x C) (sc9 W l' C N) C k 0 x y = lead2 m' l' C C x y) := Lib.hid (fun x hx y hy => by rw [HWe.out]; exact cl9_lead2 hlC hx hy)
                      obtain ⟨D, hD⟩ : ∃ D : Nat → GB, D = fun x => sc9 W m' C k x C := ⟨_, rfl⟩
                      rw [← hD] at HL1 HL2
                      have HDe : Hid (∀ x, sc9 W m' C k x C = D x) := Lib.hid (fun x => by rw [hD])
                      generalize sc9 W m' C k = M at *
                      generalize sc9 W l' C N = L at *
                      clear hD HW HWe
                      go_wp2
                      clear d1 r1 r2
                      go_loopw [17] (fun v wu => ∃ i : Nat, i ≤ k ∧ v = .int .i64 (i : Int) ∧ Hid (Duo w.heap.size wu m1 m2 k N H1 h1 e1 (cl9 D M C i 0) H2 h2 e2 (cl9 D L C i 0)) ∧ Hid (Kept [] w wu)) (fun v _ => k - (intOf v).toNat)
                      case atStart => exact ⟨0, by omega, rfl, Lib.hid (HD.out.congr (fun x _ y _ => cl9_start.symm) (fun x _ y _ => cl9_start.symm)), HK⟩
                      case round =>
                        clear HD HK
                        obtain ⟨i, hi, rfl, HD, HK⟩ := hrel
                        by_cases hli : i < k
                        · have d1 := HD.out.A.rowG hli k0
                          have d2 := HD.out.A.byte hli hlC
                          rw [cl9_here (Nat.zero_le _), HDe.out] at d2
                          have r1 := (HD.out.A.cap i hli).1
                          have r2 := (HD.out.A.cap i hli).2
                          unfold maxLen at r2
                          obtain ⟨dv, hdv⟩ : ∃ dv, dv = (D i).v := ⟨_, rfl⟩
                          rw [← hdv] at d2
                          have hdl := dv.toNat_lt
                          by_cases hic : i = C
                          · subst hic
                            have HD2 := Lib.hid (HD.out.congr (fun x _ y _ => cl9_skip (.inl rfl)) (fun x _ y _ => cl9_skip (.inl rfl)))
                            clear HD hdv
                            go_wp2
                            go_roundw
                            case rel => exact ⟨i + 1, by omega, by go_num, HD2, HK⟩
                            case measure => simp [intOf]; omega
                          · have hE : ((i : Int) == (C : Int)) = false := by simp; omega
                            by_cases hz : D i = 0
                            · have HD2 := Lib.hid (HD.out.congr (fun x _ y _ => cl9_skip (.inr hz)) (fun x _ y _ => cl9_skip (.inr hz)))
                              have hd0 : dv = 0 := by rw [hdv, hz]; rfl
                              subst hd0
                              have d3 : wr.cell? ⟨h1 i, C, none⟩ = some (.int .u8 0) := d2
                              clear HD hdv hz hdl d2
                              go_wp2
                              go_roundw
                              case rel => exact ⟨i + 1, by omega, by go_num, HD2, HK⟩
                              case measure => simp [intOf]; omega
                            · have hx0 : ((dv.toNat : Int) == 0) = false := by
                                have : dv.toNat ≠ 0 := fun e => gb_ne hz (by rw [← hdv]; exact UInt8.toNat_inj.1 e)
                                simp [this]
                              have HDv := Lib.hid hdv
                              obtain ⟨wy, hwy⟩ : ∃ wy, wy = wr := ⟨_, rfl⟩
                              rw [← hwy] at HD HK d1 d2 ⊢
                              clear hwy hz hdv
                              go_wp2
                              clear d1 d2 hx0 r1 r2
                              go_loopw [19] (fun v wu => ∃ j : Nat, j ≤ k ∧ v = .int .i64 (j : Int) ∧ Hid (Duo w.heap.size wu m1 m2 k N H1 h1 e1 (cl9 D M C i j) H2 h2 e2 (cl9 D L C i 0)) ∧ Hid (Kept [] w wu)) (fun v _ => k - (intOf v).toNat)
                              case atStart => exact ⟨0, by omega, rfl, HD, HK⟩
                              case round =>
                                clear HD HK
                                obtain ⟨j, hj, rfl, HD, HK⟩ := hrel
                                by_cases hlj : j < k
                                · have ci := HD.out.A.rowG hli k0
                                  have cC := HD.out.A.rowG hlC k0
                                  have x1 := HD.out.A.byte hli hlj
                                  have x2 := HD.out.A.byte hlC hlj
                                  rw [cl9_here (Nat.le_refl j)] at x1
                                  rw [cl9_piv] at x2
                                  have r1 := (HD.out.A.cap i hli).1
                                  have r2 := (HD.out.A.cap i hli).2
                                  have r3 := (HD.out.A.cap C hlC).1
                                  have r4 := (HD.out.A.cap C hlC).2
                                  unfold maxLen at r2 r4
                                  obtain ⟨yb, hyb⟩ : ∃ yb, yb = (M i j).v := ⟨_, rfl⟩
                                  obtain ⟨xb, hxb⟩ : ∃ xb, xb = (M C j).v := ⟨_, rfl⟩
                                  obtain ⟨z, hz⟩ : ∃ z, z = gmul 0x1d dv xb := ⟨_, rfl⟩
                                  obtain ⟨s8, hs8⟩ : ∃ s8, s8 = yb ^^^ z := ⟨_, rfl⟩
                                  rw [← hyb] at x1
                                  rw [← hxb] at x2
                                  have rx : bits .xor .u8 (yb.toNat : Int) (z.toNat : Int) = (s8.toNat : Int) := by rw [bits_xorB, hs8]
                                  have hv : (M i j + D i * M C j).v = s8 := by rw [gb_add, gb_mul, ← HDv.out, ← hyb, ← hxb, ← hz, ← hs8]
                                  have HF : Hid (Duo w.heap.size (wr.setCell ⟨h1 i, j, none⟩ (.int .u8 (s8.toNat : Int))) m1 m2 k N H1 h1 e1 (cl9 D M C i (j + 1)) H2 h2 e2 (cl9 D L C i 0)) := Lib.hid (by
                                    have h := HD.out.setA hli hlj (M i j + D i * M C j)
                                    rw [hv] at h
                                    exact h.congr (fun x _ y _ => cl9_set hic) (fun _ _ _ _ => rfl))
                                  have HF2 : Hid (Kept [] w (wr.setCell ⟨h1 i, j, none⟩ (.int .u8 (s8.toNat : Int)))) := Lib.hid (HK.out.setCell (.inr (HD.out.n3 k0 i hli)) _)
                                  have f1 := HD.out.A.frz hli k0 j
                                  have HM : Hid (∀ W, Calls Try.prog 43 #[.int .u8 (dv.toNat : Int), .int .u8 (xb.toNat : Int)] W fun e w' => e = .returned (.int .u8 (z.toNat : Int)) ∧ w' = W) := Lib.hid (fun W => mulR9_q dv xb z W hz)
                                  have b5 := xb.toNat_lt
                                  have b6 := yb.toNat_lt
                                  have b7 := z.toNat_lt
                                  clear hv hxb hyb hz hs8 HD HK
                                  go_wp2
                                  go_still_tail 23, (by kernel_rfl)
                                  still_call (HM.out _)
                                  repeat still_step
                                  refine wpStill_nil ?_
                                  change wpList _ _ _ _ _ wr.drew
                                  go_wp2
                                  go_roundw
                                  case rel => exact ⟨j + 1, by omega, by go_num, Lib.hid (HF.out.kept0 ((Kept.refl [] _).drewN 1)), Lib.hid (HF2.out.drewN 1)⟩
                                  case measure => simp [intOf]; omega
                                · obtain rfl : k = j := by omega
                                  have HD5 := Lib.hid (HD.out.congr (fun x _ y hy => cl9_next hy) (fun _ _ _ _ => rfl))
                                  clear HD
                                  obtain ⟨wx, hwx⟩ : ∃ wx, wx = wr := ⟨_, rfl⟩
                                  rw [← hwx] at HD5 HK ⊢
                                  clear hwx
                                  go_wp2
                                  go_loopw [20] (fun v wu => ∃ j : Nat, j ≤ N ∧ v = .int .i64 (j : Int) ∧ Hid (Duo w.heap.size wu m1 m2 k N H1 h1 e1 (cl9 D M C (i + 1) 0) H2 h2 e2 (cl9 D L C i j)) ∧ Hid (Kept [] w wu)) (fun v _ => N - (intOf v).toNat)
                                  case atStart => exact ⟨0, by omega, rfl, HD5, HK⟩
                                  case round =>
                                    clear HD5 HK
                                    obtain ⟨j, hj, rfl, HD, HK⟩ := hrel
                                    by_cases hlj : j < N
                                    · have N0 : 0 < N := by omega
                                      have ci := HD.out.B.rowG hli N0
                                      have cC := HD.out.B.rowG hlC N0
                                      have x1 := HD.out.B.byte hli hlj
                                      have x2 := HD.out.B.byte hlC hlj
                                      rw [cl9_here (Nat.le_refl j)] at x1
                                      rw [cl9_piv] at x2
                                      have r1 := (HD.out.B.cap i hli).1
                                      have r2 := (HD.out.B.cap i hli).2
                                      have r3 := (HD.out.B.cap C hlC).1
                                      have r4 := (HD.out.B.cap C hlC).2
                                      unfold maxLen at r2 r4
                                      obtain ⟨yb, hyb⟩ : ∃ yb, yb = (L i j).v := ⟨_, rfl⟩
                                      obtain ⟨xb, hxb⟩ : ∃ xb, xb = (L C j).v := ⟨_, rfl⟩
                                      obtain ⟨z, hz⟩ : ∃ z, z = gmul 0x1d dv xb := ⟨_, rfl⟩
                                      obtain ⟨s8, hs8⟩ : ∃ s8, s8 = yb ^^^ z := ⟨_, rfl⟩
                                      rw [← hyb] at x1
                                      rw [← hxb] at x2
                                      have rx : bits .xor .u8 (yb.toNat : Int) (z.toNat : Int) = (s8.toNat : Int) := by rw [bits_xorB, hs8]
                                      have hv : (L i j + D i * L C j).v = s8 := by rw [gb_add, gb_mul, ← HDv.out, ← hyb, ← hxb, ← hz, ← hs8]
                                      have HF : Hid (Duo w.heap.size (wr.setCell ⟨h2 i, j, none⟩ (.int .u8 (s8.toNat : Int))) m1 m2 k N H1 h1 e1 (cl9 D M C (i + 1) 0) H2 h2 e2 (cl9 D L C i (j + 1))) := Lib.hid (by
                                        have h := HD.out.setB hli hlj (L i j + D i * L C j)
                                        rw [hv] at h
                                        exact h.congr (fun _ _ _ _ => rfl) (fun x _ y _ => cl9_set hic))
                                      have HF2 : Hid (Kept [] w (wr.setCell ⟨h2 i, j, none⟩ (.int .u8 (s8.toNat : Int)))) := Lib.hid (HK.out.setCell (.inr (HD.out.n4 N0 i hli)) _)
                                      have f1 := HD.out.B.frz hli N0 j
                                      have HM : Hid (∀ W, Calls Try.prog 43 #[.int .u8 (dv.toNat : Int), .int .u8 (xb.toNat : Int)] W fun e w' => e = .returned (.int .u8 (z.toNat : Int)) ∧ w' = W) := Lib.hid (fun W => mulR9_q dv xb z W hz)
                                      have b5 := xb.toNat_lt
                                      have b6 := yb.toNat_lt
                                      have b7 := z.toNat_lt
                                      clear hv hxb hyb hz hs8 HD HK
                                      go_wp2
                                      go_still_tail 23, (by kernel_rfl)
                                      still_call (HM.out _)
                                      repeat still_step
                                      refine wpStill_nil ?_
                                      change wpList _ _ _ _ _ wr.drew
                                      go_wp2
                                      go_roundw
                                      case rel => exact ⟨j + 1, by omega, by go_num, Lib.hid (HF.out.kept0 ((Kept.refl [] _).drewN 1)), Lib.hid (HF2.out.drewN 1)⟩
                                      case measure => simp [intOf]; omega
                                    · obtain rfl : N = j := by omega
                                      have d1 := HD.out.B.row i hli
                                      have r1 := (HD.out.B.cap i hli).1
                                      have r2 := (HD.out.B.cap i hli).2
                                      unfold maxLen at r2
                                      have HD6 := Lib.hid (HD.out.congr (fun _ _ _ _ => rfl) (fun x _ y hy => cl9_next hy))
                                      clear HD
                                      go_wp2
                                      go_roundw
                                      case rel => exact ⟨i + 1, by omega, by go_num, HD6, HK⟩
                                      case measure => simp [intOf]; omega
                        · obtain rfl : k = i := by omega
                          have HD9 := Lib.hid (HD.out.congr HL1.out HL2.out)
                          have HS9 := Lib.hid (HS8.out.step hlC HZ8.out)
                          clear HD HS8 HL1 HL2
                          go_wp2
                          go_roundw
                          case rel => exact ⟨C + 1, H1, h1, e1, _, H2, h2, e2, _, by omega, by go_num, HD9, HS9, HK⟩
                          case measure => simp [intOf]; omega
        · obtain rfl : k = C := by omega
          have HR : Hid (RdL wr (some ⟨m2, 0, none⟩) k c3 (ofm k N X)) := Lib.hid (by
            have h := HD.out.B.rdl q3 (by simp only [maxLen]; omega)
            rw [ofm_congr HS.out.done] at h
            exact h)
          clear HD HS
          go_wp2
          go_ret
          exact ⟨_, k, c3, rfl, HR.out, HK.out⟩
end Go.Proofs.Ytpnpimhfakfolaa
