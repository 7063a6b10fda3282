/-
  Contracts of layer 8 (matrix): a row leads a column. No statement of the seed is proved here.
-/
import Derived.Test.YtmfbgogfefgglaaM83
namespace Go.Proofs.Ytmfbgogfefgglaa
open Go.RowKit
set_option linter.unusedVariables false

theorem gb_inv (x : GB) : (Fld.inv x).v = ginv 0x1d x.v := rfl
theorem gb_ne {x : GB} (h : x ≠ 0) : x.v ≠ 0 := fun e => h (by cases x; exact congrArg GB.mk e)
set_option maxRecDepth 100000 in
set_option maxHeartbeats 4000000 in
theorem lead8_any (p R G n k i c : Nat) (off : Nat → Nat) (m : Nat → Nat → GB) (y z : Int) (w : World) (hT : TabAt w p) (hpR : p ≠ R) (hpG : p ≠ G) (hM : OwM w R G n k off m) (hi : i < n) (hc : c < k) (hne : m i c ≠ 0) (hy : y = (i : Int)) (hz : z = (c : Int)) (hn : n ≤ 1000) (hk : k ≤ 1000) :
    Calls Try.prog 39 #[.pointer (some ⟨p, 0, none⟩), .slice (some ⟨R, 0, none⟩) n n, .int .i64 y, .int .i64 z] w fun e w' => e = .returned (.tuple #[]) ∧ OwM w' R G n k off (lead1 m i c) ∧ Kept [G] w w' := by
  subst hy hz
  have HT := Lib.hid hT
  have HM := Lib.hid hM
  have c1 := hM.row hi
  have c2 := hM.byte hi hc
  obtain ⟨bv, hbv⟩ : ∃ bv, bv = (m i c).v := ⟨_, rfl⟩
  have hb0 : bv ≠ 0 := by rw [hbv]; exact gb_ne hne
  obtain ⟨iv, hiv⟩ : ∃ iv, iv = ginv 0x1d bv := ⟨_, rfl⟩
  have Hiv : Hid (Fld.inv (m i c) = ⟨iv⟩) := Lib.hid (by rw [hiv, hbv]; rfl)
  rw [← hbv] at c2
  have hib := iv.toNat_lt
  have hbb := bv.toNat_lt
  have HL : Hid (∀ a b, lead1 m i c a b = if a = i then ⟨iv⟩ * m i b else m a b + m a c * (⟨iv⟩ * m i b)) := Lib.hid (fun a b => by unfold lead1; rw [Hiv.out])
  have HI : Hid (∀ W, TabAt W p → Calls Try.prog 35 #[.pointer (some ⟨p, 0, none⟩), .int .u8 (bv.toNat : Int)] W fun e w' => e = .returned (.tuple #[.int .u8 (iv.toNat : Int), .int .i64 0]) ∧ TabAt w' p ∧ Kept [] W w') := Lib.hid (fun W hW => by rw [hiv]; exact inv7_v p bv _ _ W hW rfl hb0 rfl)
  obtain ⟨M', hM'⟩ : ∃ M', M' = lead1 m i c := ⟨_, rfl⟩
  rw [← hM'] at HL ⊢
  clear hT hM hbv hiv hb0 hne hM' Hiv
  go_enter Try.func39, Try.ntmps39
  go_wp2_with fail
  refine (HI.out _ HT.out).mono ?_
  rintro e w1 ⟨rfl, t1, k1⟩
  have HM1 := Lib.hid (HM.out.kept0 k1)
  have c1 := HM1.out.row hi
  have HT1 := Lib.hid t1
  have HK1 : Hid (Kept [G] w w1) := Lib.hid (k1.mono (by simp))
  clear t1 k1 HT HM HI c2
  go_wp2
  go_loopw [31] (fun v wr => ∃ r : Nat, r ≤ k ∧ v = .int .i64 (r : Int) ∧ Hid (OwM wr R G n k off (fun a b => if a = i then (if b < r then ⟨iv⟩ * m i b else m i b) else m a b)) ∧ Hid (Kept [G] w wr) ∧ Hid (TabAt wr p)) (fun v _ => k - (intOf v).toNat)
  case atStart => exact ⟨0, by omega, rfl, Lib.hid (HM1.out.congr fun a ha b hb => by
    by_cases e : a = i
    · rw [if_pos e, if_neg (by omega), e]
    · rw [if_neg e]), HK1, HT1⟩
  case round =>
    clear HM1 HK1 HT1 c1
    obtain ⟨r, hr, rfl, HM, HK, HT⟩ := hrel
    by_cases hlt : r < k
    · have c1 := HM.out.row hi
      have c2 : wr.cell? ⟨G, off i + r, none⟩ = some (.int .u8 ((m i r).v.toNat : Int)) := by
        have := HM.out.byte hi hlt
        simp only [if_true, Nat.lt_irrefl, if_false] at this
        exact this
      have f2 := HM.out.frzG (off i + r)
      obtain ⟨xr, hxr⟩ : ∃ xr, xr = (m i r).v := ⟨_, rfl⟩
      rw [← hxr] at c2
      have hxb := xr.toNat_lt
      obtain ⟨q, hq⟩ : ∃ q, q = gmul 0x1d iv xr := ⟨_, rfl⟩
      have hqb := q.toNat_lt
      have hv : ((⟨iv⟩ : GB) * m i r).v = q := by rw [gb_mul, ← hxr, hq]
      have HF : Hid (∀ W, Kept [] wr W → OwM (W.setCell ⟨G, off i + r, none⟩ (.int .u8 (q.toNat : Int))) R G n k off (fun a b => if a = i then (if b < r + 1 then ⟨iv⟩ * m i b else m i b) else m a b) ∧ Kept [G] w (W.setCell ⟨G, off i + r, none⟩ (.int .u8 (q.toNat : Int))) ∧ TabAt (W.setCell ⟨G, off i + r, none⟩ (.int .u8 (q.toNat : Int))) p) := Lib.hid (fun W hW => by
        have h1 := (HM.out.kept0 hW).set hi hlt (⟨iv⟩ * m i r)
        rw [hv] at h1
        refine ⟨h1.congr fun a ha b hb => ?_, (HK.out.andThen hW).setCell (.inl (by simp)) _, (HT.out.kept0 hW).kept ((Kept.refl [G] W).setCell (.inl (by simp)) _) (by simpa using hpG)⟩
        by_cases e : a = i
        · simp only [if_pos e, if_true]
          by_cases e2 : b = r
          · rw [if_pos e2, if_pos (by omega), e2]
          · rw [if_neg e2]
            by_cases e3 : b < r
            · rw [if_pos e3, if_pos (by omega)]
            · rw [if_neg e3, if_neg (by omega)]
        · simp only [if_neg e])
      have HMu : Hid (∀ W, TabAt W p → Calls Try.prog 36 #[.pointer (some ⟨p, 0, none⟩), .int .u8 (iv.toNat : Int), .int .u8 (xr.toNat : Int)] W fun e w' => e = .returned (.int .u8 (q.toNat : Int)) ∧ ∃ m, w' = W.drewN m) := Lib.hid (fun W hW => by rw [hq]; exact mul7_any p iv xr _ _ W hW rfl rfl)
      clear hv hq hxr HM HK
      go_wp2
      go_region_law (first
        | (go_simp; go_at_call 36; refine (HMu.out _ (by first | exact HT.out | exact HT.out.kept0 (Kept.refl [] _).drew)).mono ?_; rintro e w6 ⟨rfl, m6, rfl⟩))
      all_goals
        obtain ⟨h81, h82, h83⟩ := HF.out (wr.drewN (1 + m6)) ((Kept.refl [] wr).drewN _)
        have H81 := Lib.hid h81
        have H82 := Lib.hid h82
        have H83 := Lib.hid h83
        clear h81 h82 h83
        generalize (wr.drewN (1 + m6)).setCell ⟨G, off i + r, none⟩ (.int .u8 (q.toNat : Int)) = w8 at *
        clear HF HMu HT c1 c2 f2
        go_wp2
        go_roundw
        case rel => exact ⟨r + 1, by omega, by go_num, H81, H82, H83⟩
        case measure => simp [intOf]; omega
    · obtain rfl : k = r := by omega
      have HM2 : Hid (OwM wr R G n k off (fun a b => if a = i then ⟨iv⟩ * m i b else if a < 0 then m a b + m a c * (⟨iv⟩ * m i b) else m a b)) := Lib.hid (HM.out.congr fun a ha b hb => by
        by_cases e : a = i
        · rw [if_pos e, if_pos e, if_pos hb]
        · rw [if_neg e, if_neg e, if_neg (by omega)])
      obtain ⟨w2, hw2⟩ : ∃ w2, w2 = wr := ⟨_, rfl⟩
      rw [← hw2] at HM2 HK HT ⊢
      clear HM hw2
      go_wp2
      go_loopw [49] (fun v wr => ∃ r : Nat, r ≤ n ∧ v = .int .i64 (r : Int) ∧ Hid (OwM wr R G n k off (fun a b => if a = i then ⟨iv⟩ * m i b else if a < r then m a b + m a c * (⟨iv⟩ * m i b) else m a b)) ∧ Hid (Kept [G] w wr) ∧ Hid (TabAt wr p)) (fun v _ => n - (intOf v).toNat)
      case atStart => exact ⟨0, by omega, rfl, HM2, HK, HT⟩
      case round =>
        clear HM2 HK HT
        obtain ⟨r, hr, rfl, HM, HK, HT⟩ := hrel
        by_cases hlt : r < n
        · have c1 := HM.out.row hi
          have c2 := HM.out.row hlt
          by_cases hri : r = i
          · subst hri
            have HM' : Hid (OwM wr R G n k off (fun a b => if a = r then ⟨iv⟩ * m r b else if a < r + 1 then m a b + m a c * (⟨iv⟩ * m r b) else m a b)) := Lib.hid (HM.out.congr fun a ha b hb => by
              by_cases e : a = r
              · rw [if_pos e, if_pos e]
              · rw [if_neg e, if_neg e]
                by_cases e2 : a < r
                · rw [if_pos e2, if_pos (by omega)]
                · rw [if_neg e2, if_neg (by omega)])
            clear HM c2
            go_wp2
            go_roundw
            case rel => exact ⟨r + 1, by omega, by go_num, HM', HK, HT⟩
            case measure => simp [intOf]; omega
          · have c3 : wr.cell? ⟨G, off r + c, none⟩ = some (.int .u8 ((m r c).v.toNat : Int)) := by
              have := HM.out.byte hlt hc
              simp only [if_neg hri, Nat.lt_irrefl, if_false] at this
              exact this
            obtain ⟨xr, hxr⟩ : ∃ xr, xr = (m r c).v := ⟨_, rfl⟩
            rw [← hxr] at c3
            have hxb := xr.toNat_lt
            have hne1 : (r : Int) ≠ (i : Int) := by omega
            have HA : Hid (∀ W, Kept [] wr W → Calls Try.prog 28 #[.pointer (some ⟨p, 0, none⟩), .slice (some ⟨G, off r, none⟩) k k, .int .u8 (xr.toNat : Int), .slice (some ⟨G, off i, none⟩) k k] W fun e w' => e = .returned (.tuple #[]) ∧ OwM w' R G n k off (fun a b => if a = i then ⟨iv⟩ * m i b else if a < r + 1 then m a b + m a c * (⟨iv⟩ * m i b) else m a b) ∧ Kept [G] w w' ∧ TabAt w' p) := Lib.hid (fun W hW => by
              have hMW := HM.out.kept0 hW
              refine (add8_any p G (off r) k k G (off i) k (m r c) _ (fun b => ⟨iv⟩ * m i b) (fun b => m r b) W (HT.out.kept0 hW) hpG (by rw [hxr]) hMW.blk (fun j hj => ?_) (fun j hj => ?_) (fun _ a ha b hb => hMW.apart i hi r hlt (fun e => hri e.symm) a ha b hb) (by omega) (Nat.le_refl _) (Nat.le_refl _)).mono ?_
              · have := hMW.bytes r hlt j hj
                simp only [if_neg hri, Nat.lt_irrefl, if_false] at this
                exact this
              · have := hMW.bytes i hi j hj
                simp only [if_true] at this
                exact this
              · rintro e w' ⟨rfl, hW'⟩
                refine ⟨rfl, (hMW.wrt hlt hW').congr fun a ha b hb => ?_, (HK.out.andThen hW).trans hW'.kept (by simp), (HT.out.kept0 hW).kept hW'.kept (by simpa using hpG)⟩
                by_cases e : a = r
                · simp only [if_pos e]
                  rw [if_neg (by omega), if_pos (by omega), e]
                · simp only [if_neg e]
                  by_cases e1 : a = i
                  · rw [if_pos e1, if_pos e1]
                  · rw [if_neg e1, if_neg e1]
                    by_cases e2 : a < r
                    · rw [if_pos e2, if_pos (by omega)]
                    · rw [if_neg e2, if_neg (by omega)])
            clear HM HK HT hxr
            go_wp2
            go_region_law (first
              | (go_simp; go_at_call 28; refine (HA.out _ (by first | exact Kept.refl [] _ | exact (Kept.refl [] _).drew)).mono ?_; rintro e w6 ⟨rfl, h61, h62, h63⟩))
            all_goals
              have H61 := Lib.hid h61
              have H62 := Lib.hid h62
              have H63 := Lib.hid h63
              clear h61 h62 h63 HA c1 c2 c3
              go_wp2
              go_roundw
              case rel => exact ⟨r + 1, by omega, by go_num, H61, H62, H63⟩
              case measure => simp [intOf]; omega
        · obtain rfl : n = r := by omega
          have HE : Hid (OwM wr R G n k off M') := Lib.hid (HM.out.congr fun a ha b hb => by
            rw [HL.out]
            by_cases e : a = i
            · rw [if_pos e, if_pos e]
            · rw [if_neg e, if_neg e, if_pos ha])
          clear HM
          go_wp2
          go_end0
          exact ⟨rfl, HE.out, HK.out⟩
end Go.Proofs.Ytmfbgogfefgglaa
